/-
  PROVED: whatever graph and numbers are handed in, the law TopTexts returns true (a graph told as a text is the graph: the same is told of it), and its arguments read afterwards as they read before; the five tables of the library that its road can read are tied to the program's text (the card). Conditions: none of our own.
-/
import Derived.Shelf.Abstract
import Derived.Test.YtkgbgkcbflicmaiDoorShelf
import Derived.Laws.CopyOwn
import Derived.OwnWalk
import Derived.OneCell
import Derived.Laws.StructEq
import Derived.ProofKit
import Derived.OpenShut
import Derived.ChangeOld
import Derived.Deep.SlicePairs
import Derived.Handed
import Derived.HandedShaped
import Derived.ShapedOpen
import Derived.Shelf.Vars
import Derived.Lay
import Derived.ChangeMaps5
import Derived.Test.YtkgbgkcbflicmaiDoorCards
import Derived.Test.YtkgbgkcbflicmaiDoorTie
import Derived.LaidMore
import Derived.Stop.Joined
import Derived.Stop.LaidErr
import Derived.SevenTiedAt
import Derived.Test.YtkgbgkcbflicmaiDoorPk1
import Derived.Test.YtkgbgkcbflicmaiDoorPk2

namespace Go.Proofs.YtkgbgkcbflicmaiDoor
open Go.RowKit

theorem Tryd.infoRide : (Tryd.prog.info? 67).map (fun i => (i.zero, i.size, i.bytes)) = some (some (.agg #[.int .i64 0, .int .i64 0, .int .i64 0, .int .i64 0, .int .i64 0, .int .i64 0]), 6, 48) := by kernel_rfl
theorem stopHereR {p : Prop} (h : Hid p) : p := h

/-- the values of a ride -/
def encR (c : Ri) : List Value := [.int .i64 c.1, .int .i64 c.2.1, .int .i64 c.2.2.1, .int .i64 c.2.2.2.1, .int .i64 c.2.2.2.2.1, .int .i64 c.2.2.2.2.2]
def encRs (l : List Ri) : List Value := l.flatMap encR
theorem encRs_append (a b : List Ri) : encRs (a ++ b) = encRs a ++ encRs b := by simp [encRs]
theorem encRs_length (l : List Ri) : (encRs l).length = l.length * 6 := by
  induction l with
  | nil => rfl
  | cons c l ih => simp only [encRs, List.flatMap_cons, List.length_append, List.length_cons] at ih ⊢; rw [ih]; simp [encR]; omega
def ri0 : Ri := (0, 0, 0, 0, 0, 0)
theorem encRs_get (l : List Ri) (j : Nat) (h : j < l.length) : (encRs l)[j * 6]? = some (.int .i64 (l.getD j ri0).1) ∧ (encRs l)[j * 6 + 1]? = some (.int .i64 (l.getD j ri0).2.1) ∧ (encRs l)[j * 6 + 2]? = some (.int .i64 (l.getD j ri0).2.2.1) ∧ (encRs l)[j * 6 + 3]? = some (.int .i64 (l.getD j ri0).2.2.2.1) ∧ (encRs l)[j * 6 + 4]? = some (.int .i64 (l.getD j ri0).2.2.2.2.1) ∧ (encRs l)[j * 6 + 5]? = some (.int .i64 (l.getD j ri0).2.2.2.2.2) := by
  induction l generalizing j with
  | nil => simp at h
  | cons c l ih =>
    have e : encRs (c :: l) = .int .i64 c.1 :: .int .i64 c.2.1 :: .int .i64 c.2.2.1 :: .int .i64 c.2.2.2.1 :: .int .i64 c.2.2.2.2.1 :: .int .i64 c.2.2.2.2.2 :: encRs l := by simp [encRs, encR]
    rw [e]
    cases j with
    | zero => exact ⟨rfl, rfl, rfl, rfl, rfl, rfl⟩
    | succ j =>
      have := ih j (by simpa using h)
      rw [show (j + 1) * 6 = j * 6 + 1 + 1 + 1 + 1 + 1 + 1 by omega]
      simpa using this
/-- one ride in six cells -/
structure RdOne (w : World) (b o : Nat) (r : Ri) : Prop where
  c0 : w.cell? ⟨b, o, none⟩ = some (.int .i64 r.1)
  c1 : w.cell? ⟨b, o + 1, none⟩ = some (.int .i64 r.2.1)
  c2 : w.cell? ⟨b, o + 2, none⟩ = some (.int .i64 r.2.2.1)
  c3 : w.cell? ⟨b, o + 3, none⟩ = some (.int .i64 r.2.2.2.1)
  c4 : w.cell? ⟨b, o + 4, none⟩ = some (.int .i64 r.2.2.2.2.1)
  c5 : w.cell? ⟨b, o + 5, none⟩ = some (.int .i64 r.2.2.2.2.2)
theorem RdOne.below {w w' : World} {b o : Nat} {r : Ri} (h : RdOne w b o r) (hlt : b < w.heap.size) (hb : Below w.heap.size w w') : RdOne w' b o r :=
  ⟨(hb.cell (p := ⟨b, o, none⟩) hlt).trans h.c0, (hb.cell (p := ⟨b, o + 1, none⟩) hlt).trans h.c1, (hb.cell (p := ⟨b, o + 2, none⟩) hlt).trans h.c2, (hb.cell (p := ⟨b, o + 3, none⟩) hlt).trans h.c3, (hb.cell (p := ⟨b, o + 4, none⟩) hlt).trans h.c4, (hb.cell (p := ⟨b, o + 5, none⟩) hlt).trans h.c5⟩
/-- the rides of l lie at ao, six cells each -/
def RdAt (w : World) (ao : Option Addr) (l : List Ri) : Prop :=
  l = [] ∨ ∃ b off, ao = some ⟨b, off, none⟩ ∧ b < w.heap.size ∧ ∀ j, j < l.length → RdOne w b (off + j * 6) (l.getD j ri0)
theorem RdAt.below {w w' : World} {ao : Option Addr} {l : List Ri} (h : RdAt w ao l) (hb : Below w.heap.size w w') : RdAt w' ao l := by
  rcases h with h | ⟨b, off, rfl, hlt, hc⟩
  · exact .inl h
  · exact .inr ⟨b, off, rfl, Nat.lt_of_lt_of_le hlt hb.size, fun j hj => (hc j hj).below hlt hb⟩
theorem rdAt_of_owns {w : World} {base e : Nat} {v : Value} {n : Nat} {l : List Ri} (h : w.ownsRow base e 6 v n (encRs l)) : ∃ ao cap, v = .slice ao l.length cap ∧ RdAt w ao l := by
  obtain ⟨h1, h2⟩ := h
  simp only [encRs_length] at h1
  have hn : n = l.length := by omega
  subst hn
  rcases h2 with ⟨rfl, h0⟩ | ⟨g, cap, cur, rfl, hb, hh, h3, h4, h5, h6⟩
  · exact ⟨none, 0, by rw [h0], .inl (List.eq_nil_of_length_eq_zero h0)⟩
  · have hown : w.ownsRow base e 6 (.slice (some ⟨g, 0, none⟩) l.length cap) l.length (encRs l) := ⟨by simp [encRs_length], .inr ⟨g, cap, cur, rfl, hb, hh, h3, h4, h5, h6⟩⟩
    refine ⟨_, cap, rfl, .inr ⟨g, 0, rfl, (Array.getElem?_eq_some_iff.1 hh).1, fun j hj => ?_⟩⟩
    obtain ⟨f0, f1, f2, f3, f4, f5⟩ := encRs_get l j hj
    refine ⟨?_, ?_, ?_, ?_, ?_, ?_⟩
    · rw [Nat.zero_add, hown.cellAt (j * 6) (by omega)]; exact f0
    · rw [Nat.zero_add, hown.cellAt (j * 6 + 1) (by omega)]; exact f1
    · rw [Nat.zero_add, hown.cellAt (j * 6 + 2) (by omega)]; exact f2
    · rw [Nat.zero_add, hown.cellAt (j * 6 + 3) (by omega)]; exact f3
    · rw [Nat.zero_add, hown.cellAt (j * 6 + 4) (by omega)]; exact f4
    · rw [Nat.zero_add, hown.cellAt (j * 6 + 5) (by omega)]; exact f5
/-- six cells in a new block -/
theorem cells_six_newR (w : World) (B : Nat) (t : TypeId) (x y z u v s : Value) (hB : B = w.heap.size) : ∀ j q, [x, y, z, u, v, s][j]? = some q → (w.alloc (.cells #[x, y, z, u, v, s] t)).cell? ((⟨B, 0, none⟩ : Addr).add j) = some q := by
  subst hB
  intro j q hj
  match j, hj with
  | 0, hj => simp at hj; subst hj; simp [Addr.add]
  | 1, hj => simp at hj; subst hj; simp [Addr.add]
  | 2, hj => simp at hj; subst hj; simp [Addr.add]
  | 3, hj => simp at hj; subst hj; simp [Addr.add]
  | 4, hj => simp at hj; subst hj; simp [Addr.add]
  | 5, hj => simp at hj; subst hj; simp [Addr.add]

theorem nextF_own {g : Gr} (R : Right g) {j : Nat} (hj : j < g.edges.length) (d : Int) : nextF g (g.edges[j].1, d, 0) ((j : Int), d) = (lands g g.edges[j] d).map fun q => (g.edges[j].2.1, q.1, q.2) := by
  rw [nextF_at (h := ((j : Int), d)) rfl hj]
  cases hl : lands g g.edges[j] d with
  | none => split <;> simp
  | some q => rw [if_pos ⟨(lands_lt R hj hl).2.1, rfl, by simp only; omega⟩]; simp
theorem ridesAt_none {g : Gr} {d : Int} {j : Nat} (hj : j < g.edges.length) (h : lands g g.edges[j] d = none) : ridesAt g d (j + 1) = ridesAt g d j := by rw [ridesAt, edge_getD hj, h]; simp
theorem ridesAt_some {g : Gr} {d : Int} {j : Nat} (hj : j < g.edges.length) {q : Int × Int} (h : lands g g.edges[j] d = some q) : ridesAt g d (j + 1) = ridesAt g d j ++ [((j : Int), d, g.edges[j].1, g.edges[j].2.1, q.1, q.2)] := by rw [ridesAt, edge_getD hj, h]

set_option maxRecDepth 100000 in
set_option maxHeartbeats 8000000 in
theorem Rides_any (g : Gr) (la ea : Option Addr) (lc ec : Nat) (w : World) (hG : GAt w la ea g) (hR : Right g) :
    Calls Tryd.prog 32 #[.agg #[.int .i64 g.hor, .slice la g.lives.length lc, .slice ea g.edges.length ec]] w fun r w' => ∃ u, r = .returned u ∧ w'.ownsRow w.heap.size 67 6 u (ridesF g).length (encRs (ridesF g)) ∧ Below w.heap.size w w' := by
  obtain ⟨i0, hi, hz0, hz1, hz2⟩ := info_parts Tryd.infoRide
  obtain ⟨w1, hw1⟩ : ∃ x, x = w.alloc (.cells #[.int .i64 g.hor, .slice la g.lives.length lc, .slice ea g.edges.length ec] 25) := ⟨_, rfl⟩
  have B0 : GBx w w1 w.heap.size g la ea lc ec := by rw [hw1]; exact gbx_start w g la ea lc ec 25
  have hhor := hR.hor
  have hed := hR.eds
  have HRt := hideg hR
  have HG := hideg hG
  have HB1 := hideg B0
  have g0 := B0.c0
  have g2 := B0.c2
  have hw1s := hw1.symm
  have hH : Hid (ridesF g = ridesTo g g.hor.toNat) := rfl
  clear hR hG B0 hw1
  go_enter Tryd.func32, Tryd.ntmps32
  go_wp2_with fail
  clear hw1s
  go_loopw [3, 12] (fun u d wr => ∃ k : Nat, (k : Int) ≤ g.hor ∧ d = .int .i64 (k : Int) ∧ wr.ownsRow w1.heap.size 67 6 u (ridesTo g k).length (encRs (ridesTo g k)) ∧ Below w1.heap.size w1 wr) (fun _ d _ => (g.hor - intOf d).toNat)
  case atStart => exact ⟨0, by omega, by simp, World.ownsRow_nil _ _ _ _, Below.refl _ _⟩
  case round =>
    clear g0 g2
    obtain ⟨k, hk, rfl, hown, hb⟩ := hrel
    have BR := HB1.out.below hb
    have g0 := BR.c0
    have g2 := BR.c2
    have hol := ridesTo_len g k
    have hk100 : k ≤ 100 := by omega
    have hol' : (ridesTo g k).length ≤ 3000 := Nat.le_trans hol (Nat.le_trans (Nat.mul_le_mul hk100 hed) (by omega))
    by_cases hlt : (k : Int) < g.hor
    · obtain ⟨out, hout⟩ : ∃ o, o = ridesTo g k := ⟨_, rfl⟩
      rw [← hout] at hown hol'
      have HSucc : Hid (ridesTo g (k + 1) = out ++ ridesAt g (k : Int) g.edges.length) := by show _ = _; rw [hout]; rfl
      clear hout hol
      obtain ⟨wo, hwo⟩ : ∃ x, x = wr := ⟨_, rfl⟩
      have hown0 : wo.ownsRow w1.heap.size 67 6 u3 out.length (encRs out) := by rw [hwo]; exact hown
      have hbo : Below w1.heap.size w1 wo := by rw [hwo]; exact hb
      rw [← hwo] at g0 g2 ⊢
      clear hown hb hwo BR
      have hw1' : IntKind.i64.wrap ((k : Int) + 1) = (k : Int) + 1 := wrap_nj _ (by omega) (by omega)
      go_wp2_with fail
      go_loopw [3, 18] (fun u i wr => ∃ j : Nat, j ≤ g.edges.length ∧ i = .int .i64 j ∧ wr.ownsRow w1.heap.size 67 6 u (out ++ ridesAt g (k : Int) j).length (encRs (out ++ ridesAt g (k : Int) j)) ∧ Below w1.heap.size w1 wr) (fun _ i _ => g.edges.length - (intOf i).toNat)
      case atStart => exact ⟨0, Nat.zero_le _, rfl, by simpa [ridesAt] using hown0, hbo⟩
      case round =>
        clear hown0 hbo g0 g2
        obtain ⟨j, hj, rfl, hown, hb⟩ := hrel
        have BR := HB1.out.below hb
        have hoa := ridesAt_len g (k : Int) j
        by_cases hjl : j < g.edges.length
        · obtain ⟨b, off, lo, lcap, rfl, hbr, e0, e1, e2, _⟩ : ∃ b off lo lcap, ea = some ⟨b, off, none⟩ ∧ b < wr.heap.size ∧ wr.cell? ⟨b, off + j * 3, none⟩ = some (.int .i64 g.edges[j].1) ∧ wr.cell? ⟨b, off + j * 3 + 1, none⟩ = some (.int .i64 g.edges[j].2.1) ∧ wr.cell? ⟨b, off + j * 3 + 2, none⟩ = some (.slice lo g.edges[j].2.2.length lcap) ∧ LgAt wr lo g.edges[j].2.2 := by
            rcases (HG.out.below BR.bel).ed with h0 | ⟨b, off, rfl, hbr, hc⟩
            · rw [h0] at hjl; simp at hjl
            obtain ⟨c0, c1, lo, lcap, c2, hL, _, _⟩ := hc j hjl
            exact ⟨b, off, lo, lcap, rfl, hbr, c0, c1, c2, hL⟩
          obtain ⟨hA, hBe, _⟩ := HRt.out.ends _ (List.getElem_mem hjl)
          obtain ⟨p, hp, hNx⟩ := next_any g la (some ⟨b, off, none⟩) lc ec (g.edges[j].1, (k : Int), 0) ((j : Int), (k : Int)) HRt.out hA.1 hA.2 (by simp) (by simp)
          rw [nextF_own HRt.out hjl] at hp hNx
          simp only at hNx
          unfold nextV at hNx
          obtain ⟨wb, hwb⟩ : ∃ x, x = (wr.alloc (.cells #[.int .i64 g.edges[j].1, .int .i64 g.edges[j].2.1, .slice lo g.edges[j].2.2.length lcap] 54)).alloc (.cells #[.int .i64 (j : Int), .int .i64 (k : Int)] 43) := ⟨_, rfl⟩
          have hbw : Below wr.heap.size wr wb := by rw [hwb]; exact ptg (gal _ _) (gal _ _)
          have hBb := BR.below hbw
          have hNw := hNx wb (HG.out.below hBb.bel)
          have ga0 := hBb.c0
          have ga1 := hBb.c1
          have ga2 := hBb.c2
          have gb0 := BR.c2
          have f0 : wb.cell? ⟨wr.heap.size, 0, none⟩ = some (.int .i64 g.edges[j].1) := by rw [hwb, (gal _ _).cell (by simp)]; exact new_cell rfl rfl
          have f1 : wb.cell? ⟨wr.heap.size + 1, 0, none⟩ = some (.int .i64 (j : Int)) := by rw [hwb]; exact new_cell (by simp) rfl
          have f2 : wb.cell? ⟨wr.heap.size + 1, 1, none⟩ = some (.int .i64 (k : Int)) := by rw [hwb]; exact new_cell (by simp) rfl
          have hwbs : wr.heap.size + 1 < wb.heap.size := by rw [hwb]; simp
          have hll : (out ++ ridesAt g (k : Int) j).length ≤ 4000 := by rw [List.length_append]; omega
          have HOW : Hid (∀ W, Below wb.heap.size wb W → W.ownsRow w1.heap.size 67 6 u3 (out ++ ridesAt g (k : Int) j).length (encRs (out ++ ridesAt g (k : Int) j)) ∧ Below w1.heap.size w1 W) := fun W h => ⟨ownsRow_below hown (ptg hbw h), hb.trans ((ptg hbw h).mono hb.size)⟩
          have HN := hideg (ridesAt_none (g := g) (d := (k : Int)) hjl)
          have HY := hideg (fun q => ridesAt_some (g := g) (d := (k : Int)) hjl (q := q))
          clear hown hb hNx hBb
          generalize hcur : out ++ ridesAt g (k : Int) j = cur at *
          have HCur := hideg hcur
          have hwbs' := hwb.symm
          clear hcur BR hwb
          cases hs : lands g g.edges[j] (k : Int) with
          | none =>
            rw [hs] at hNw
            simp only [Option.map_none, Option.isSome_none] at hNw
            have HE := hideg (HN.out hs)
            clear hs hp HN HY hA hBe
            generalize g.edges[j] = ed at *
            go_wp2_with fail
            refine hNw.mono ?_
            rintro r w3 ⟨rfl, hb3⟩
            have HO2 := hideg (fun o => HOW.out (w3.alloc o) (ptg hb3 (gal w3 o)))
            clear hNw hb3 e0 e1 e2 ga0 ga1 ga2 gb0 HOW f0 f1 f2 hbw
            go_wp2
            go_roundw
            case rel => exact ⟨j + 1, by omega, by go_num, by rw [HE.out, HCur.out]; exact (HO2.out _).1, (HO2.out _).2⟩
            case measure => simp [intOf]; omega
          | some q =>
            rw [hs] at hNw hp
            simp only [Option.map_some, Option.isSome_some] at hNw
            have hp := hp _ rfl
            subst hp
            simp only at hNw
            have HE := hideg (HY.out q hs)
            clear hs HN HY hA hBe
            generalize g.edges[j] = ed at *
            go_wp2_with fail
            refine hNw.mono ?_
            rintro r w3 ⟨rfl, hb3⟩
            obtain ⟨w4, hw4⟩ : ∃ x, x = w3.alloc (.cells #[.int .i64 ed.2.1, .int .i64 q.1, .int .i64 q.2] 104) := ⟨_, rfl⟩
            have hb4 : Below wb.heap.size wb w4 := by rw [hw4]; exact ptg hb3 (gal w3 _)
            obtain ⟨o1, o2⟩ := HOW.out w4 hb4
            have x0 := (hb4.cell (p := ⟨wr.heap.size, 0, none⟩) (by simp only; omega)).trans f0
            have x1 := (hb4.cell (p := ⟨wr.heap.size + 1, 0, none⟩) (by simp only; omega)).trans f1
            have x2 := (hb4.cell (p := ⟨wr.heap.size + 1, 1, none⟩) (by simp only; omega)).trans f2
            have x3 : w4.cell? ⟨w3.heap.size, 0, none⟩ = some (.int .i64 ed.2.1) := by rw [hw4]; exact new_cell rfl rfl
            have x4 : w4.cell? ⟨w3.heap.size, 1, none⟩ = some (.int .i64 q.1) := by rw [hw4]; exact new_cell rfl rfl
            have x5 : w4.cell? ⟨w3.heap.size, 2, none⟩ = some (.int .i64 q.2) := by rw [hw4]; exact new_cell rfl rfl
            have hs4 := hb4.size
            have hs5 := o2.size
            have hs6 : w3.heap.size < w4.heap.size := by rw [hw4]; simp
            have HBg : Hid (∀ (o : Obj) (w5 : World), (w4.alloc o).grownBy w5 u3.ownBlock → Below w1.heap.size w1 w5) := fun o w5 hgr => (o2.alloc o2.size o).grown hgr (by have := o2.size; simp at this ⊢; omega) (fun k hk => (o1.lt k hk).1)
            have hw4s := hw4.symm
            clear hNw hb3 e0 e1 e2 ga0 ga1 ga2 gb0 HOW f0 f1 f2 hbw hb4 hw4 hwbs'
            go_wp2_with (at_builtin; refine stopHereR ?_)
            refine hideg ?_
            refine wpList_append_own _ rfl _ _ 61 rfl w1.heap.size 67 i0 _ 6 48 Tryd.underlying61 hi hz0 hz1 hz2 rfl (by decide) _ _ _ rfl (World.ownsRow.alloc (w := w4) o1 _) ⟨w4.heap.size, 0, none⟩ 1 1 [.int .i64 j, .int .i64 k, .int .i64 ed.1, .int .i64 ed.2.1, .int .i64 q.1, .int .i64 q.2] rfl rfl (cells_six_newR _ _ _ _ _ _ _ _ _ (by simp)) (by intro u hu; simp at hu; rcases hu with rfl | rfl | rfl | rfl | rfl | rfl <;> rfl) (by unfold maxLen; omega) (by omega) (by simp; omega) ?_
            intro v' w5 hown5 hgrow _
            have hb' := HBg.out _ _ hgrow
            have R : w5.ownsRow w1.heap.size 67 6 v' (out ++ ridesAt g (k : Int) (j + 1)).length (encRs (out ++ ridesAt g (k : Int) (j + 1))) := by
              rw [HE.out, ← List.append_assoc, HCur.out, encRs_append, List.length_append]; exact hown5
            clear hgrow o1 hown5 x0 x1 x2 x3 x4 x5 hw4s
            go_wp2
            go_roundw
            case rel => exact ⟨j + 1, by omega, by go_num, R, hb'⟩
            case measure => simp [intOf]; omega
        · have hjn : j = g.edges.length := by omega
          subst hjn
          rw [← HSucc.out] at hown
          clear BR
          go_wp2
          go_roundw
          case rel => exact ⟨k + 1, by omega, by go_num, hown, hb⟩
          case measure => simp [intOf]; omega
    · have hke : k = g.hor.toNat := by omega
      rw [hke, ← hH.out] at hown
      have R := owns_base2 hown HB1.out.bel.size
      have hbF := BR.bel
      clear hown hke BR
      go_wp2
      go_ret
      exact ⟨_, rfl, R, hbF⟩

end Go.Proofs.YtkgbgkcbflicmaiDoor

namespace Go.Proofs.YtkgbgkcbflicmaiDoor
open Go.RowKit

/-- a ride as a value -/
def rideV (r : Ri) : Value := .agg #[.int .i64 r.1, .int .i64 r.2.1, .int .i64 r.2.2.1, .int .i64 r.2.2.2.1, .int .i64 r.2.2.2.2.1, .int .i64 r.2.2.2.2.2]
theorem costOf_any (r : Ri) (w : World) : Calls Tryd.prog 20 #[rideV r] w fun res w' => res = .returned (.int .i64 r.2.2.2.2.2) ∧ Below w.heap.size w w' := by
  obtain ⟨E, d, a, e, ar, c⟩ := r
  simp only [rideV]
  go_enter Tryd.func20, Tryd.ntmps20
  go_wp2
  go_ret
  exact ⟨rfl, gal w _⟩
theorem encV_mk (p E d a e ar c : Int) : encV (p, E, d, a, e, ar, c) = .agg #[.int .i64 p, .int .i64 E, .int .i64 d, .int .i64 a, .int .i64 e, .int .i64 ar, .int .i64 c] := rfl
set_option maxRecDepth 100000 in
set_option maxHeartbeats 1000000 in
theorem take_any (b n : Nat) (M : Mp) (r : Ri) (p : Int) (w : World) (hM : MapAt w b n M) (hn : n < 100000) (hr : Wi r.2.1 ∧ Wi r.2.2.1 ∧ Wi r.2.2.2.1 ∧ Wi r.2.2.2.2.1) (hp : 0 ≤ p ∧ p ≤ 1000) (hx : ∀ x, M r.2.2.1 r.2.1 = some x → -1000000 ≤ x.1 ∧ x.1 ≤ 1000000) :
    Calls Tryd.prog 54 #[.map (some b), rideV r, .int .i64 p] w fun res w' => (∃ v, res = .returned v) ∧ MapAt w' b (n + 1) (takeM M r p) ∧ w.grownBy w' (some b) := by
  obtain ⟨E, d, a, e, ar, c⟩ := r
  simp only [rideV]
  simp only at hr hx
  obtain ⟨hd, ha, he, har⟩ := hr
  obtain ⟨w1, hw1⟩ : ∃ x, x = w.alloc (.cells #[.int .i64 E, .int .i64 d, .int .i64 a, .int .i64 e, .int .i64 ar, .int .i64 c] 67) := ⟨_, rfl⟩
  have b1 : Below w.heap.size w w1 := by rw [hw1]; exact gal w _
  have M1 := hM.below b1
  have k1 := M1.look ha hd
  have y1 : w1.cell? ⟨w.heap.size, 1, none⟩ = some (.int .i64 d) := by rw [hw1]; exact new_cell rfl rfl
  have y2 : w1.cell? ⟨w.heap.size, 2, none⟩ = some (.int .i64 a) := by rw [hw1]; exact new_cell rfl rfl
  have hw1s := hw1.symm
  cases h1 : M a d with
  | none =>
    have HT : Hid (takeM M (E, d, a, e, ar, c) p = M) := by show _ = _; unfold takeM; simp only; rw [h1]
    rw [h1] at k1
    simp only [keyV, Option.getD_none, encV_mk, Option.isSome_none] at k1
    clear h1 hw1
    go_enter Tryd.func54, Tryd.ntmps54
    go_wp2
    refine bodyPost_ret (results_none rfl _ _ _) rfl ⟨⟨_, rfl⟩, ?_, ?_⟩
    · rw [HT.out]; exact (M1.alloc _).mono (by omega)
    · exact gby_of_below (ptg b1 (gal w1 _)) _
  | some x =>
    obtain ⟨q, E2, d2, a2, e2, ar2, c2⟩ := x
    have hq := hx _ h1
    simp only at hq
    rw [h1] at k1
    simp only [keyV, Option.getD_some, encV_mk, Option.isSome_some] at k1
    have hw2 : IntKind.i64.wrap (q + p) = q + p := wrap_nj _ (by omega) (by omega)
    obtain ⟨w3, hw3⟩ : ∃ x, x = (w1.alloc (.cells #[.int .i64 q, .int .i64 E2, .int .i64 d2, .int .i64 a2, .int .i64 e2, .int .i64 ar2, .int .i64 c2] 89)).alloc (.cells #[.int .i64 e, .int .i64 ar] 92) := ⟨_, rfl⟩
    have b3 : Below w1.heap.size w1 w3 := by rw [hw3]; exact ptg (gal _ _) (gal _ _)
    have s3 : w3.heap.size = w1.heap.size + 1 + 1 := by rw [hw3]; simp
    have s1 : w1.heap.size = w.heap.size + 1 := by rw [hw1]; simp
    have M3 := M1.below b3
    have k2 := M3.look he har
    have z0 : w3.cell? ⟨w1.heap.size, 0, none⟩ = some (.int .i64 q) := by rw [hw3, (gal _ _).cell (by simp)]; exact new_cell rfl rfl
    have z1 : w3.cell? ⟨w1.heap.size + 1, 0, none⟩ = some (.int .i64 e) := by rw [hw3]; exact new_cell (by simp) rfl
    have z2 : w3.cell? ⟨w1.heap.size + 1, 1, none⟩ = some (.int .i64 ar) := by rw [hw3]; exact new_cell (by simp) rfl
    have y3 : w1.cell? ⟨w.heap.size, 3, none⟩ = some (.int .i64 e) := by rw [hw1]; exact new_cell rfl rfl
    have y4 : w1.cell? ⟨w.heap.size, 4, none⟩ = some (.int .i64 ar) := by rw [hw1]; exact new_cell rfl rfl
    have y3' : (w1.alloc (.cells #[.int .i64 q, .int .i64 E2, .int .i64 d2, .int .i64 a2, .int .i64 e2, .int .i64 ar2, .int .i64 c2] 89)).cell? ⟨w.heap.size, 3, none⟩ = some (.int .i64 e) := ((gal w1 _).cell (p := ⟨w.heap.size, 3, none⟩) (by simp only; omega)).trans y3
    have y4' : (w1.alloc (.cells #[.int .i64 q, .int .i64 E2, .int .i64 d2, .int .i64 a2, .int .i64 e2, .int .i64 ar2, .int .i64 c2] 89)).cell? ⟨w.heap.size, 4, none⟩ = some (.int .i64 ar) := ((gal w1 _).cell (p := ⟨w.heap.size, 4, none⟩) (by simp only; omega)).trans y4
    have hw3s := hw3.symm
    have no : ∀ W, Below w3.heap.size w3 W → takeM M (E, d, a, e, ar, c) p = M → MapAt W b (n + 1) (takeM M (E, d, a, e, ar, c) p) ∧ w.grownBy W (some b) := fun W h h' => by
      rw [h']; exact ⟨(M3.below h).mono (by omega), gby_of_below (ptg b1 (ptg b3 h)) _⟩
    have yes : ∀ W, Below w3.heap.size w3 W → takeM M (E, d, a, e, ar, c) p = mset M e ar (q + p, E, d, a, e, ar, c) → ∃ w', (Instr.mapUpdate 86 (.map (some b)) (.agg #[.int .i64 e, .int .i64 ar]) (.agg #[.int .i64 (q + p), .int .i64 E, .int .i64 d, .int .i64 a, .int .i64 e, .int .i64 ar, .int .i64 c])).run Tryd.prog W = .ok () w' ∧ Hid (MapAt w' b (n + 1) (takeM M (E, d, a, e, ar, c) p) ∧ w.grownBy w' (some b)) := fun W h h' => by
      obtain ⟨w', r1, r2, r3⟩ := (M3.below h).store (by unfold maxLen; omega) he har (q + p, E, d, a, e, ar, c)
      exact ⟨w', r1, by rw [h']; exact r2, gby_trans (gby_of_below (ptg b1 (ptg b3 h)) _) r3⟩
    have HNo := hideg no
    have HYes := hideg yes
    have cY : ∀ W, Below w3.heap.size w3 W → ∀ j x, w1.cell? ⟨w.heap.size, j, none⟩ = some x → W.cell? ⟨w.heap.size, j, none⟩ = some x := fun W h j x hx => ((ptg b3 h).cell (p := ⟨w.heap.size, j, none⟩) (by simp only; omega)).trans hx
    have HC := hideg cY
    have y0 : w1.cell? ⟨w.heap.size, 0, none⟩ = some (.int .i64 E) := by rw [hw1]; exact new_cell rfl rfl
    have y5 : w1.cell? ⟨w.heap.size, 5, none⟩ = some (.int .i64 c) := by rw [hw1]; exact new_cell rfl rfl
    have HTk : Hid (takeM M (E, d, a, e, ar, c) p = if lessB (M e ar) (q + p) = true then mset M e ar (q + p, E, d, a, e, ar, c) else M) := by show _ = _; unfold takeM; simp only; rw [h1]
    have HSz : Hid (w3.heap.size = w1.heap.size + 1 + 1) := s3
    clear no yes hM M1 M3 hx h1 cY hw1 hw3 s1 s3
    cases h2 : M e ar with
    | none =>
      rw [h2] at k2
      simp only [keyV, Option.getD_none, encV_mk, Option.isSome_none] at k2
      have HT : Hid (takeM M (E, d, a, e, ar, c) p = mset M e ar (q + p, E, d, a, e, ar, c)) := by show _ = _; rw [HTk.out, h2]; rfl
      obtain ⟨w', hup, HF⟩ := HYes.out (w3.alloc (.cells #[.int .i64 0, .int .i64 0, .int .i64 0, .int .i64 0, .int .i64 0, .int .i64 0, .int .i64 0] 89)) (gal w3 _) HT.out
      clear HTk h2
      have z0' := ((gal w3 (.cells #[.int .i64 0, .int .i64 0, .int .i64 0, .int .i64 0, .int .i64 0, .int .i64 0, .int .i64 0] 89)).cell (p := ⟨w1.heap.size, 0, none⟩) (by simp only; have := HSz.out; omega)).trans z0
      have z1' := ((gal w3 (.cells #[.int .i64 0, .int .i64 0, .int .i64 0, .int .i64 0, .int .i64 0, .int .i64 0, .int .i64 0] 89)).cell (p := ⟨w1.heap.size + 1, 0, none⟩) (by simp only; have := HSz.out; omega)).trans z1
      have z2' := ((gal w3 (.cells #[.int .i64 0, .int .i64 0, .int .i64 0, .int .i64 0, .int .i64 0, .int .i64 0, .int .i64 0] 89)).cell (p := ⟨w1.heap.size + 1, 1, none⟩) (by simp only; have := HSz.out; omega)).trans z2
      have c0 := HC.out _ (gal w3 (.cells #[.int .i64 0, .int .i64 0, .int .i64 0, .int .i64 0, .int .i64 0, .int .i64 0, .int .i64 0] 89)) 0 _ y0
      have c1 := HC.out _ (gal w3 (.cells #[.int .i64 0, .int .i64 0, .int .i64 0, .int .i64 0, .int .i64 0, .int .i64 0, .int .i64 0] 89)) 1 _ y1
      have c2' := HC.out _ (gal w3 (.cells #[.int .i64 0, .int .i64 0, .int .i64 0, .int .i64 0, .int .i64 0, .int .i64 0, .int .i64 0] 89)) 2 _ y2
      have c3 := HC.out _ (gal w3 (.cells #[.int .i64 0, .int .i64 0, .int .i64 0, .int .i64 0, .int .i64 0, .int .i64 0, .int .i64 0] 89)) 3 _ y3
      have c4 := HC.out _ (gal w3 (.cells #[.int .i64 0, .int .i64 0, .int .i64 0, .int .i64 0, .int .i64 0, .int .i64 0, .int .i64 0] 89)) 4 _ y4
      have c5 := HC.out _ (gal w3 (.cells #[.int .i64 0, .int .i64 0, .int .i64 0, .int .i64 0, .int .i64 0, .int .i64 0, .int .i64 0] 89)) 5 _ y5
      go_enter Tryd.func54, Tryd.ntmps54
      go_wp2
      refine bodyPost_end (results_none rfl _ _ _) rfl ⟨⟨_, rfl⟩, HF.out.1, HF.out.2⟩
    | some y =>
      obtain ⟨q2, E3, d3, a3, e3, ar3, c3⟩ := y
      rw [h2] at k2
      simp only [keyV, Option.getD_some, encV_mk, Option.isSome_some] at k2
      by_cases hl : q + p < q2
      · have HT : Hid (takeM M (E, d, a, e, ar, c) p = mset M e ar (q + p, E, d, a, e, ar, c)) := by
          show _ = _; rw [HTk.out, h2, if_pos (by simp [lessB, hl])]
        obtain ⟨w', hup, HF⟩ := HYes.out (w3.alloc (.cells #[.int .i64 q2, .int .i64 E3, .int .i64 d3, .int .i64 a3, .int .i64 e3, .int .i64 ar3, .int .i64 c3] 89)) (gal w3 _) HT.out
        clear HTk h2
        have z0' := ((gal w3 (.cells #[.int .i64 q2, .int .i64 E3, .int .i64 d3, .int .i64 a3, .int .i64 e3, .int .i64 ar3, .int .i64 c3] 89)).cell (p := ⟨w1.heap.size, 0, none⟩) (by simp only; have := HSz.out; omega)).trans z0
        have z1' := ((gal w3 (.cells #[.int .i64 q2, .int .i64 E3, .int .i64 d3, .int .i64 a3, .int .i64 e3, .int .i64 ar3, .int .i64 c3] 89)).cell (p := ⟨w1.heap.size + 1, 0, none⟩) (by simp only; have := HSz.out; omega)).trans z1
        have z2' := ((gal w3 (.cells #[.int .i64 q2, .int .i64 E3, .int .i64 d3, .int .i64 a3, .int .i64 e3, .int .i64 ar3, .int .i64 c3] 89)).cell (p := ⟨w1.heap.size + 1, 1, none⟩) (by simp only; have := HSz.out; omega)).trans z2
        have c0 := HC.out _ (gal w3 (.cells #[.int .i64 q2, .int .i64 E3, .int .i64 d3, .int .i64 a3, .int .i64 e3, .int .i64 ar3, .int .i64 c3] 89)) 0 _ y0
        have c1 := HC.out _ (gal w3 (.cells #[.int .i64 q2, .int .i64 E3, .int .i64 d3, .int .i64 a3, .int .i64 e3, .int .i64 ar3, .int .i64 c3] 89)) 1 _ y1
        have c2' := HC.out _ (gal w3 (.cells #[.int .i64 q2, .int .i64 E3, .int .i64 d3, .int .i64 a3, .int .i64 e3, .int .i64 ar3, .int .i64 c3] 89)) 2 _ y2
        have c3' := HC.out _ (gal w3 (.cells #[.int .i64 q2, .int .i64 E3, .int .i64 d3, .int .i64 a3, .int .i64 e3, .int .i64 ar3, .int .i64 c3] 89)) 3 _ y3
        have c4 := HC.out _ (gal w3 (.cells #[.int .i64 q2, .int .i64 E3, .int .i64 d3, .int .i64 a3, .int .i64 e3, .int .i64 ar3, .int .i64 c3] 89)) 4 _ y4
        have c5 := HC.out _ (gal w3 (.cells #[.int .i64 q2, .int .i64 E3, .int .i64 d3, .int .i64 a3, .int .i64 e3, .int .i64 ar3, .int .i64 c3] 89)) 5 _ y5
        go_enter Tryd.func54, Tryd.ntmps54
        go_wp2
        refine bodyPost_end (results_none rfl _ _ _) rfl ⟨⟨_, rfl⟩, HF.out.1, HF.out.2⟩
      · have HT : Hid (takeM M (E, d, a, e, ar, c) p = M) := by
          show _ = _; rw [HTk.out, h2, if_neg (by simp [lessB]; omega)]
        have z0' := ((gal w3 (.cells #[.int .i64 q2, .int .i64 E3, .int .i64 d3, .int .i64 a3, .int .i64 e3, .int .i64 ar3, .int .i64 c3] 89)).cell (p := ⟨w1.heap.size, 0, none⟩) (by simp only; have := HSz.out; omega)).trans z0
        clear HTk h2 HYes
        go_enter Tryd.func54, Tryd.ntmps54
        go_wp2
        refine bodyPost_end (results_none rfl _ _ _) rfl ⟨⟨_, rfl⟩, (HNo.out _ (gal w3 _) HT.out).1, (HNo.out _ (gal w3 _) HT.out).2⟩

end Go.Proofs.YtkgbgkcbflicmaiDoor

namespace Go.Proofs.YtkgbgkcbflicmaiDoor
open Go.RowKit

/-- memory that is no map stays while a map is written -/
theorem MapAt.cell {w w' : World} {b n : Nat} {M : Mp} (h : MapAt w b n M) (hg : w.grownBy w' (some b)) {a : Addr} {x : Value} (hx : w.cell? a = some x) : w'.cell? a = some x := by
  refine hg.cell hx (fun e => ?_)
  obtain ⟨D, ⟨es, clock, hb, _⟩, _⟩ := h
  have e : a.block = b := by simpa using e
  unfold World.cell? at hx
  rw [e, hb] at hx
  cases hx
theorem gat_keep {w w' : World} {la ea : Option Addr} {g : Gr} (h : GAt w la ea g) (hs : w.heap.size ≤ w'.heap.size) (hc : ∀ a x, w.cell? a = some x → w'.cell? a = some x) : GAt w' la ea g := by
  refine ⟨?_, ?_, h.nl, h.ne⟩
  · rcases h.lv with h | ⟨b, off, rfl, hlt, hk⟩
    · exact .inl h
    · exact .inr ⟨b, off, rfl, Nat.lt_of_lt_of_le hlt hs, fun j hj => ⟨hc _ _ (hk j hj).1, hc _ _ (hk j hj).2⟩⟩
  · rcases h.ed with h | ⟨b, off, rfl, hlt, hk⟩
    · exact .inl h
    · refine .inr ⟨b, off, rfl, Nat.lt_of_lt_of_le hlt hs, fun j hj => ?_⟩
      obtain ⟨c0, c1, lo, lc, c2, hl, n1, n2⟩ := hk j hj
      refine ⟨hc _ _ c0, hc _ _ c1, lo, lc, hc _ _ c2, ?_, n1, n2⟩
      rcases hl with hl | ⟨b', off', rfl, hlt', hk'⟩
      · exact .inl hl
      · exact .inr ⟨b', off', rfl, Nat.lt_of_lt_of_le hlt' hs, fun i hi => ⟨hc _ _ (hk' i hi).1, hc _ _ (hk' i hi).2.1, hc _ _ (hk' i hi).2.2.1, hc _ _ (hk' i hi).2.2.2⟩⟩
theorem MapAt.gat {w w' : World} {b n : Nat} {M : Mp} (h : MapAt w b n M) (hg : w.grownBy w' (some b)) {la ea : Option Addr} {g : Gr} (hG : GAt w la ea g) : GAt w' la ea g := gat_keep hG hg.size (fun _ _ hx => h.cell hg hx)
theorem wi_small {n : Int} (h0 : -1000000 ≤ n) (h1 : n ≤ 1000000) : Wi n := by unfold Wi; omega

theorem waitV_none {g : Gr} {now : Int} {M : Mp} {v : Int} (h : M v (now - 1) = none) : waitV g now M v = M := by unfold waitV; rw [h]
theorem waitV_dead {g : Gr} {now : Int} {M : Mp} {v : Int} (h : aliveB now g.lives v = false) : waitV g now M v = M := by
  unfold waitV
  cases M v (now - 1) with
  | none => rfl
  | some x => simp [h]
theorem waitV_some {g : Gr} {now : Int} {M : Mp} {v : Int} {x : Vs} (h : M v (now - 1) = some x) (ha : aliveB now g.lives v = true) : waitV g now M v = if leqB (M v now) x.1 = true then mset M v now x else M := by
  unfold waitV; rw [h]; simp only; rw [if_pos ha]

set_option maxRecDepth 100000 in
set_option maxHeartbeats 1000000 in
theorem waitTill_any (g : Gr) (la ea : Option Addr) (lc ec : Nat) (b n : Nat) (M : Mp) (now : Int) (w : World) (hG : GAt w la ea g) (hR : Right g) (hM : MapAt w b n M) (hn : n < 50000) (h0 : 0 ≤ now ∧ now < 1000) :
    Calls Tryd.prog 53 #[.map (some b), .agg #[.int .i64 g.hor, .slice la g.lives.length lc, .slice ea g.edges.length ec], .int .i64 now] w fun res w' => (∃ v, res = .returned v) ∧ MapAt w' b (n + g.lives.length) (waitM g now M g.lives.length) ∧ w.grownBy w' (some b) := by
  obtain ⟨w1, hw1⟩ : ∃ x, x = w.alloc (.cells #[.int .i64 g.hor, .slice la g.lives.length lc, .slice ea g.edges.length ec] 25) := ⟨_, rfl⟩
  have B0 : GBx w w1 w.heap.size g la ea lc ec := by rw [hw1]; exact gbx_start w g la ea lc ec 25
  have M1 := hM.below B0.bel
  have hG1 := hG.below B0.bel
  have hlv := hR.lvs
  have g1 := B0.c1
  have hw1s := hw1.symm
  have HB0 := hideg B0.bel
  have HM1 := hideg M1
  have HG1 := hideg hG1
  have hnow1 : IntKind.i64.wrap (now - 1) = now - 1 := wrap_nj _ (by omega) (by omega)
  clear hM hG hR hw1 B0 M1 hG1
  go_enter Tryd.func53, Tryd.ntmps53
  go_wp2_with fail
  clear hw1s
  go_loopw [15] (fun i wr => ∃ k : Nat, k ≤ g.lives.length ∧ i = .int .i64 k ∧ MapAt wr b (n + k) (waitM g now M k) ∧ w1.grownBy wr (some b)) (fun i _ => g.lives.length - (intOf i).toNat)
  case atStart => exact ⟨0, Nat.zero_le _, rfl, HM1.out, gby_refl _ _⟩
  case round =>
    clear g1
    obtain ⟨k, hk, rfl, hMk, hg⟩ := hrel
    by_cases hkl : k < g.lives.length
    · have hki : (k : Int) < (g.lives.length : Int) := by omega
      have hkw : IntKind.i64.wrap ((k : Int) + 1) = (k : Int) + 1 := wrap_nj _ (by omega) (by omega)
      obtain ⟨lb, lof, rfl, hlb, l0, l1⟩ : ∃ b off, la = some ⟨b, off, none⟩ ∧ b < wr.heap.size ∧ (wr.cell? ⟨b, off + k * 2, none⟩ = some (.int .i64 g.lives[k].1) ∧ wr.cell? ⟨b, off + k * 2 + 1, none⟩ = some (.int .i64 g.lives[k].2)) := by
        rcases (HM1.out.gat hg HG1.out).lv with h0 | ⟨b, off, rfl, hbr, hc⟩
        · rw [h0] at hkl; simp at hkl
        exact ⟨b, off, rfl, hbr, IvAt.get hkl hc⟩
      have hal := fun W => jalive_any g.lives[k].1 g.lives[k].2 now W
      rw [← aliveB_at now g.lives k hkl] at hal
      obtain ⟨wa, hwa⟩ : ∃ x, x = wr.alloc (.cells #[.int .i64 g.lives[k].1, .int .i64 g.lives[k].2] 51) := ⟨_, rfl⟩
      have ba : Below wr.heap.size wr wa := by rw [hwa]; exact gal wr _
      have y0 : wa.cell? ⟨wr.heap.size, 0, none⟩ = some (.int .i64 g.lives[k].1) := by rw [hwa]; exact new_cell rfl rfl
      have y1 : wa.cell? ⟨wr.heap.size, 1, none⟩ = some (.int .i64 g.lives[k].2) := by rw [hwa]; exact new_cell rfl rfl
      have sa : wr.heap.size < wa.heap.size := by rw [hwa]; simp
      have Ma := hMk.below ba
      have k1 := Ma.look (v := (k : Int)) (t := now - 1) (wi_small (by omega) (by omega)) (wi_small (by omega) (by omega))
      have HSu : Hid (waitM g now M (k + 1) = waitV g now (waitM g now M k) (k : Int)) := rfl
      generalize waitM g now M k = Mk at *
      have HGa : Hid (∀ W, Below wa.heap.size wa W → w1.grownBy W (some b)) := fun W h => gby_trans hg (gby_of_below (ptg ba h) _)
      have HMa : Hid (∀ W, Below wa.heap.size wa W → MapAt W b (n + k) Mk) := fun W h => Ma.below h
      have hwas := hwa.symm
      clear hwa hMk hg ba Ma
      have NO : Hid (waitM g now M (k + 1) = Mk → ∀ W, Below wa.heap.size wa W → MapAt W b (n + (k + 1)) (waitM g now M (k + 1)) ∧ w1.grownBy W (some b)) := fun h W hW => by rw [h]; exact ⟨(HMa.out W hW).mono (by omega), HGa.out W hW⟩
      cases h1 : Mk (k : Int) (now - 1) with
      | none =>
        have HE := hideg (NO.out (HSu.out.trans (waitV_none h1)))
        rw [h1] at k1
        simp only [keyV, Option.getD_none, encV_mk, Option.isSome_none] at k1
        clear h1 hal HSu NO
        generalize g.lives[k] = lf at *
        go_wp2
        go_roundw
        case rel => exact ⟨k + 1, by omega, by go_num, (HE.out _ (gal wa _)).1, (HE.out _ (gal wa _)).2⟩
        case measure => simp [intOf]; omega
      | some x =>
        obtain ⟨q, E2, d2, a2, e2, ar2, c2⟩ := x
        rw [h1] at k1
        simp only [keyV, Option.getD_some, encV_mk, Option.isSome_some] at k1
        obtain ⟨wb, hwb⟩ : ∃ x, x = wa.alloc (.cells #[.int .i64 q, .int .i64 E2, .int .i64 d2, .int .i64 a2, .int .i64 e2, .int .i64 ar2, .int .i64 c2] 89) := ⟨_, rfl⟩
        have bb : Below wa.heap.size wa wb := by rw [hwb]; exact gal wa _
        have z0 : ∀ j x, #[Value.int .i64 q, .int .i64 E2, .int .i64 d2, .int .i64 a2, .int .i64 e2, .int .i64 ar2, .int .i64 c2][j]? = some x → wb.cell? ⟨wa.heap.size, j, none⟩ = some x := fun j x hx => by rw [hwb]; exact new_cell rfl hx
        have y0b := (bb.cell (p := ⟨wr.heap.size, 0, none⟩) sa).trans y0
        have y1b := (bb.cell (p := ⟨wr.heap.size, 1, none⟩) sa).trans y1
        have sb : wa.heap.size < wb.heap.size := by rw [hwb]; simp
        have hwbs := hwb.symm
        clear hwb
        cases ha : aliveB now g.lives (k : Int) with
        | false =>
          rw [ha] at hal
          have HE := hideg (fun W h => NO.out (HSu.out.trans (waitV_dead ha)) W (ptg bb h))
          clear h1 HSu NO ha z0
          generalize g.lives[k] = lf at *
          go_wp2_with fail
          refine (hal _).mono ?_
          rintro r w5 ⟨rfl, hb5⟩
          have HE5 := hideg (HE.out _ hb5)
          clear hal hb5 HE
          go_wp2
          go_roundw
          case rel => exact ⟨k + 1, by omega, by go_num, HE5.out.1, HE5.out.2⟩
          case measure => simp [intOf]; omega
        | true =>
          rw [ha] at hal
          have HV : Hid (waitM g now M (k + 1) = if leqB (Mk (k : Int) now) q = true then mset Mk (k : Int) now (q, E2, d2, a2, e2, ar2, c2) else Mk) := HSu.out.trans (waitV_some h1 ha)
          have HZ := hideg z0
          clear h1 HSu ha z0
          generalize g.lives[k] = lf at *
          go_wp2_with fail
          refine (hal _).mono ?_
          rintro r w5 ⟨rfl, hb5⟩
          have M5 := HMa.out w5 (ptg bb hb5)
          have k2 := M5.look (v := (k : Int)) (t := now) (wi_small (by omega) (by omega)) (wi_small (by omega) (by omega))
          have YES : Hid (waitM g now M (k + 1) = mset Mk (k : Int) now (q, E2, d2, a2, e2, ar2, c2) → ∀ W, Below w5.heap.size w5 W → ∃ w', (Instr.mapUpdate 86 (.map (some b)) (.agg #[.int .i64 (k : Int), .int .i64 now]) (.agg #[.int .i64 q, .int .i64 E2, .int .i64 d2, .int .i64 a2, .int .i64 e2, .int .i64 ar2, .int .i64 c2])).run Tryd.prog W = .ok () w' ∧ Hid (MapAt w' b (n + (k + 1)) (waitM g now M (k + 1)) ∧ w1.grownBy w' (some b))) := fun h W hW => by
            obtain ⟨w', r1, r2, r3⟩ := (M5.below hW).store (by unfold maxLen; omega) (v := (k : Int)) (t := now) (wi_small (by omega) (by omega)) (wi_small (by omega) (by omega)) (q, E2, d2, a2, e2, ar2, c2)
            exact ⟨w', r1, by rw [h]; exact r2, gby_trans (HGa.out W (ptg bb (ptg hb5 hW))) r3⟩
          have HC : Hid (∀ W, Below w5.heap.size w5 W → ∀ j x, #[Value.int .i64 q, .int .i64 E2, .int .i64 d2, .int .i64 a2, .int .i64 e2, .int .i64 ar2, .int .i64 c2][j]? = some x → W.cell? ⟨wa.heap.size, j, none⟩ = some x) := fun W hW j x hx => ((ptg hb5 hW).cell (p := ⟨wa.heap.size, j, none⟩) sb).trans (HZ.out j x hx)
          have HNO5 : Hid (waitM g now M (k + 1) = Mk → ∀ W, Below w5.heap.size w5 W → MapAt W b (n + (k + 1)) (waitM g now M (k + 1)) ∧ w1.grownBy W (some b)) := fun h W hW => NO.out h W (ptg bb (ptg hb5 hW))
          clear hal M5 NO HMa HGa hwas hwbs k1 y0 y1 y0b y1b bb hb5 HZ l0 l1
          cases h2 : Mk (k : Int) now with
          | none =>
            rw [h2] at k2
            simp only [keyV, Option.getD_none, encV_mk, Option.isSome_none] at k2
            have HT := hideg (YES.out (by rw [HV.out, h2]; rfl))
            clear h2 HV YES
            obtain ⟨o, ho⟩ : ∃ o : Obj, o = .cells #[.int .i64 0, .int .i64 0, .int .i64 0, .int .i64 0, .int .i64 0, .int .i64 0, .int .i64 0] 89 := ⟨_, rfl⟩
            obtain ⟨w', hup, HF⟩ := HT.out _ (gal w5 o)
            have c0 := HC.out _ (gal w5 o) 0 _ rfl
            have c1 := HC.out _ (gal w5 o) 1 _ rfl
            have c2' := HC.out _ (gal w5 o) 2 _ rfl
            have c3 := HC.out _ (gal w5 o) 3 _ rfl
            have c4 := HC.out _ (gal w5 o) 4 _ rfl
            have c5 := HC.out _ (gal w5 o) 5 _ rfl
            have c6 := HC.out _ (gal w5 o) 6 _ rfl
            subst ho
            clear HT HC
            go_wp2
            go_roundw
            case rel => exact ⟨k + 1, by omega, by go_num, HF.out.1, HF.out.2⟩
            case measure => simp [intOf]; omega
          | some y =>
            obtain ⟨q2, E3, d3, a3, e3, ar3, c3⟩ := y
            rw [h2] at k2
            simp only [keyV, Option.getD_some, encV_mk, Option.isSome_some] at k2
            obtain ⟨w6, hw6⟩ : ∃ x, x = w5.alloc (.cells #[.int .i64 q2, .int .i64 E3, .int .i64 d3, .int .i64 a3, .int .i64 e3, .int .i64 ar3, .int .i64 c3] 89) := ⟨_, rfl⟩
            have b6 : Below w5.heap.size w5 w6 := by rw [hw6]; exact gal w5 _
            have v0 : w6.cell? ⟨w5.heap.size, 0, none⟩ = some (.int .i64 q2) := by rw [hw6]; exact new_cell rfl rfl
            have c0 := HC.out w6 b6 0 _ rfl
            have c1 := HC.out w6 b6 1 _ rfl
            have c2' := HC.out w6 b6 2 _ rfl
            have c3' := HC.out w6 b6 3 _ rfl
            have c4 := HC.out w6 b6 4 _ rfl
            have c5 := HC.out w6 b6 5 _ rfl
            have c6 := HC.out w6 b6 6 _ rfl
            have hw6s := hw6.symm
            clear hw6 HC
            by_cases hl : q ≤ q2
            · have HT := hideg (YES.out (by rw [HV.out, h2, if_pos (by simp [leqB, hl])]))
              obtain ⟨w', hup, HF⟩ := HT.out w6 b6
              clear h2 HV YES HT HNO5
              go_wp2
              go_roundw
              case rel => exact ⟨k + 1, by omega, by go_num, HF.out.1, HF.out.2⟩
              case measure => simp [intOf]; omega
            · have HT := hideg (HNO5.out (by rw [HV.out, h2, if_neg (by simp [leqB]; omega)]) w6 b6)
              clear h2 HV YES HNO5
              go_wp2
              go_roundw
              case rel => exact ⟨k + 1, by omega, by go_num, HT.out.1, HT.out.2⟩
              case measure => simp [intOf]; omega
    · have hke : k = g.lives.length := by omega
      subst hke
      have HF := hideg hMk
      have HG := hideg (gby_trans (gby_of_below HB0.out (some b)) hg)
      clear hMk hg
      go_wp2_with fail
      refine bodyPost_end (results_none rfl _ _ _) rfl ⟨⟨_, rfl⟩, HF.out, HG.out⟩

end Go.Proofs.YtkgbgkcbflicmaiDoor

namespace Go.Proofs.YtkgbgkcbflicmaiDoor
open Go.RowKit

theorem RdOne.gby {w w' : World} {b n : Nat} {M : Mp} (hM : MapAt w b n M) (hg : w.grownBy w' (some b)) {rb o : Nat} {r : Ri} (h : RdOne w rb o r) : RdOne w' rb o r :=
  ⟨hM.cell hg h.c0, hM.cell hg h.c1, hM.cell hg h.c2, hM.cell hg h.c3, hM.cell hg h.c4, hM.cell hg h.c5⟩
theorem GBx.gby {w W W' : World} {B b n : Nat} {M : Mp} {g : Gr} {la ea : Option Addr} {lc ec : Nat} (hM : MapAt W b n M) (hg : W.grownBy W' (some b)) (h : GBx w W B g la ea lc ec) : W'.cell? ⟨B, 0, none⟩ = some (.int .i64 g.hor) ∧ W'.cell? ⟨B, 1, none⟩ = some (.slice la g.lives.length lc) ∧ W'.cell? ⟨B, 2, none⟩ = some (.slice ea g.edges.length ec) := ⟨hM.cell hg h.c0, hM.cell hg h.c1, hM.cell hg h.c2⟩

/-- the rides that are left, in a slot: i taken, m left -/
def RSl (rb cap : Nat) (l : List Ri) (u : Value) (i m : Nat) : Prop := i + m = l.length ∧ ∃ c ao, u = .slice ao m c ∧ i + c = cap ∧ (0 < m → ao = some ⟨rb, i * 6, none⟩)

theorem rides_lie {w : World} {base : Nat} {v : Value} {l : List Ri} (h : w.ownsRow base 67 6 v l.length (encRs l)) : ∃ rb cap, RSl rb cap l v 0 l.length ∧ l.length ≤ cap ∧ cap ≤ maxLen ∧ (l ≠ [] → rb < w.heap.size) ∧ ∀ j, j < l.length → RdOne w rb (j * 6) (l.getD j ri0) := by
  have h' := h
  rcases h.2 with ⟨rfl, h0⟩ | ⟨g, cap, cur, rfl, hb, hh, h3, h4, h5, h6⟩
  · have : l = [] := List.eq_nil_of_length_eq_zero h0
    subst this
    exact ⟨0, 0, ⟨rfl, 0, none, rfl, rfl, fun h => by simp at h⟩, Nat.le_refl _, Nat.zero_le _, fun h => absurd rfl h, fun j hj => by simp at hj⟩
  · refine ⟨g, cap, ⟨by omega, cap, _, rfl, by omega, fun _ => by simp⟩, h3, h4, fun _ => (Array.getElem?_eq_some_iff.1 hh).1, fun j hj => ?_⟩
    obtain ⟨f0, f1, f2, f3, f4, f5⟩ := encRs_get l j hj
    refine ⟨?_, ?_, ?_, ?_, ?_, ?_⟩
    · rw [h'.cellAt (j * 6) (by omega)]; exact f0
    · rw [h'.cellAt (j * 6 + 1) (by omega)]; exact f1
    · rw [h'.cellAt (j * 6 + 2) (by omega)]; exact f2
    · rw [h'.cellAt (j * 6 + 3) (by omega)]; exact f3
    · rw [h'.cellAt (j * 6 + 4) (by omega)]; exact f4
    · rw [h'.cellAt (j * 6 + 5) (by omega)]; exact f5

set_option maxRecDepth 100000 in
set_option maxHeartbeats 1000000 in
theorem spread_any (g : Gr) (la ea : Option Addr) (lc ec : Nat) (F : Int → Int → Option Int) (pr : Ri → Int) (s0 : Int) (fv : FuncId) (eg : ∀ args w, (callFunc fv args).run Tryd.prog w = .ok (.enter fv args) w) (b n : Nat) (M0 : Mp) (w : World) (hG : GAt w la ea g) (hR : Right g) (hF : FOk g F s0) (hM : MapAt w b n M0) (hn : n ≤ 200) (hs0 : 0 ≤ s0 ∧ s0 < g.hor)
    (hM0 : ∀ v t, (M0 v t).map (·.1) = F v t) (hpr : PrOk g pr) (hPb : ∀ v t p, Pd g F pr v t p → -1000000 ≤ p ∧ p ≤ 1000000)
    (hfv : ∀ r W, Calls Tryd.prog fv #[rideV r] W fun res w' => res = .returned (.int .i64 (pr r)) ∧ Below W.heap.size W w') :
    Calls Tryd.prog 43 #[.map (some b), .agg #[.int .i64 g.hor, .slice la g.lives.length lc, .slice ea g.edges.length ec], .int .i64 s0, .func (.func fv) #[] #[]] w fun res w' => (∃ v, res = .returned v) ∧ (∃ n' M, MapAt w' b n' M ∧ SpE g F pr M) ∧ w.grownBy w' (some b) := by
  obtain ⟨w1, hw1⟩ : ∃ x, x = w.alloc (.cells #[.int .i64 g.hor, .slice la g.lives.length lc, .slice ea g.edges.length ec] 25) := ⟨_, rfl⟩
  have B0 : GBx w w1 w.heap.size g la ea lc ec := by rw [hw1]; exact gbx_start w g la ea lc ec 25
  have hhor := hR.hor
  have hlv := hR.lvs
  have g0 := B0.c0
  have g1 := B0.c1
  have g2 := B0.c2
  have hw1s := hw1.symm
  have hRd := Rides_any g la ea lc ec w1 (hG.below B0.bel) hR
  have hll : (ridesF g).length ≤ 3000 := Nat.le_trans (ridesTo_len g _) (Nat.le_trans (Nat.mul_le_mul (show g.hor.toNat ≤ 100 by omega) hR.eds) (by omega))
  have HRt := hideg hR
  have HF := hideg hF
  have HPr := hideg hpr
  have HPb := hideg hPb
  have HFv := hideg hfv
  have HG0 := hideg hG
  have HM0 := hideg hM
  have HI0 : Hid (SpI g F pr s0 s0 (s0 - 1) 0 0 M0) := SpI.start hF hM0
  have HB0 := hideg B0
  clear hR hF hpr hPb hfv hG hM hM0 hw1 B0
  go_enter Tryd.func43, Tryd.ntmps43
  go_wp2_with fail
  refine hRd.mono ?_
  rintro r w2 ⟨u, rfl, hu2, hb2⟩
  have HB2 := hideg (HB0.out.below hb2)
  obtain ⟨rb, cap, hRS, hcap, hcapM, hrb, hRo⟩ := rides_lie hu2
  have HRo := hideg hRo
  have HG2 := hideg (HG0.out.below HB2.out.bel)
  have HM2 := hideg (HM0.out.below HB2.out.bel)
  have HOk : Hid (∀ r ∈ ridesF g, RideOk g r) := fun r hr => mem_rides HRt.out hr
  have HTk := hideg (fun now (k i : Nat) M (h : SpI g F pr s0 now now k i M) (hi : i < (ridesF g).length) hd => h.take HRt.out HF.out hi hd)
  have HNx := hideg (fun now (i : Nat) M (h : SpI g F pr s0 now now g.lives.length i M) hd => h.next HRt.out HF.out hd)
  have HMem : Hid (∀ (i : Nat) (hi : i < (ridesF g).length), (ridesF g)[i] ∈ ridesF g) := fun i hi => List.getElem_mem hi
  generalize hrl : ridesF g = rides at hRS hcap hRo HRo HOk HTk HNx HMem hll hrb
  clear hRd hb2 hu2 hRo g0 g1 g2 HB0 HM0 HG0 hw1s
  have HRl := hideg hrl
  clear hrl
  go_wp2_with fail
  go_loopw [8, 9] (fun u x wr => ∃ (i m nn : Nat) (now : Int) (M : Mp), RSl rb cap rides u i m ∧ x = .int .i64 now ∧ s0 ≤ now ∧ now ≤ g.hor ∧ nn ≤ n + 12 * (now - s0).toNat + i ∧ MapAt wr b nn M ∧ SpI g F pr s0 now (now - 1) 0 i M ∧ w2.grownBy wr (some b)) (fun _ x _ => (g.hor - intOf x).toNat)
  case atStart => exact ⟨0, rides.length, n, s0, M0, hRS, rfl, by omega, by omega, by omega, HM2.out, HI0.out, gby_refl _ _⟩
  case round =>
    clear hRS
    obtain ⟨i, m, nn, now, M, hRS, rfl, hnow0, hnow1, hnn, hMk, hI, hg⟩ := hrel
    obtain ⟨him, c, ao, rfl, hic, hao⟩ := hRS
    obtain ⟨g0, g1, g2⟩ := GBx.gby HM2.out hg HB2.out
    by_cases hlt : now < g.hor
    · have hww : IntKind.i64.wrap (now + 1) = now + 1 := wrap_nj _ (by omega) (by omega)
      have hWt := waitTill_any g la ea lc ec b nn M now wr (HM2.out.gat hg HG2.out) HRt.out hMk (by omega) (by omega)
      have HI := hideg (hI.waits g.lives.length).turn
      have HGr := hideg hg
      clear hI hMk hg
      generalize waitM g now M g.lives.length = M1 at HI hWt
      clear M
      go_wp2_with fail
      refine hWt.mono ?_
      rintro r w3 ⟨⟨vv, rfl⟩, hM3, hg3⟩
      have HG3 := hideg (gby_trans HGr.out hg3)
      have HM3 := hideg (hM3.mono (show nn + g.lives.length ≤ n + 12 * (now + 1 - s0).toNat + i by omega))
      clear hWt hM3 hg3 g0 g1 g2 HGr
      go_wp2_with fail
      go_loopw [8] (fun u wq => ∃ (i m : Nat) (M : Mp), RSl rb cap rides u i m ∧ MapAt wq b (n + 12 * (now + 1 - s0).toNat + i) M ∧ SpI g F pr s0 now now g.lives.length i M ∧ w2.grownBy wq (some b)) (fun u _ => match u with | .slice _ m _ => m | _ => 0)
      case atStart => exact ⟨i, m, M1, ⟨him, c, ao, rfl, hic, hao⟩, HM3.out, HI.out, HG3.out⟩
      case round =>
        clear hao hic him HM3 HI HG3 hnn
        obtain ⟨i, m, M, ⟨him, c, ao, rfl, hic, hao⟩, hMq, hI, hg⟩ := hrel
        by_cases hm : 0 < m
        · have hi : i < rides.length := by omega
          have e := hao hm
          subst e
          have hgd : rides.getD i ri0 = rides[i] := by rw [List.getD_eq_getElem?_getD, List.getElem?_eq_getElem hi]; rfl
          have hRo := RdOne.gby HM2.out hg (HRo.out i hi)
          rw [hgd] at hRo
          have hok := HOk.out _ (HMem.out i hi)
          have hprr := HPr.out _ (by rw [HRl.out]; exact HMem.out i hi)
          have hTk := HTk.out now g.lives.length i M hI hi
          have HNx1 := hideg (fun (h : now < rides[i].2.1) => HNx.out now i M hI (fun _ => h))
          have hmi : ((m : Int) > 0) := by omega
          clear hgd hao
          generalize rides[i] = rr at *
          obtain ⟨E, d, a, e, ar, cc⟩ := rr
          have ha0 := hok.a0
          have hb0 := hok.b0
          have hd0 := hok.d0
          have hd1 := hok.lt
          have hd2 := hok.hor
          simp only at ha0 hb0 hd0 hd1 hd2 hTk hRo
          have c0 := hRo.c0
          have c1 := hRo.c1
          have c2 := hRo.c2
          have c3 := hRo.c3
          have c4 := hRo.c4
          have c5 := hRo.c5
          simp only at c0 c1 c2 c3 c4 c5
          clear hok hRo
          by_cases hdn : d ≤ now
          · have ddn : decide (d ≤ now) = true := by simpa using hdn
            have hT := hTk hdn
            have hcl := fun W => HFv.out (E, d, a, e, ar, cc) W
            simp only [rideV] at hcl
            have hxb : ∀ x, M a d = some x → -1000000 ≤ x.1 ∧ x.1 ≤ 1000000 := fun x hx => HPb.out _ _ _ (hI.snd _ _ _ hx)
            have hCt : ∀ W, Below wr.heap.size wr W → True := fun _ _ => trivial
            generalize pr (E, d, a, e, ar, cc) = pp at *
            have HTa := hideg (fun W (h : Below wr.heap.size wr W) => take_any b _ M (E, d, a, e, ar, cc) pp W (hMq.below h) (by omega) ⟨wi_small (by simp only; omega) (by simp only; omega), wi_small (by simp only; omega) (by simp only; omega), wi_small (by simp only; omega) (by simp only; omega), wi_small (by simp only; omega) (by simp only; omega)⟩ hprr hxb)
            have HGr : Hid (∀ W W', Below wr.heap.size wr W → W.grownBy W' (some b) → w2.grownBy W' (some b)) := fun W W' h h' => gby_trans (gby_trans hg (gby_of_below h _)) h'
            have HT := hideg hT
            have hne : Nonempty (HeldIn wr) := ⟨⟨_, Below.refl _ _⟩⟩
            have lrb : rb < wr.heap.size := Nat.lt_of_lt_of_le (hrb (fun h => by rw [h] at hi; simp at hi)) hg.size
            have f0 := fun s : HeldIn wr => (s.h.cell (p := ⟨rb, i * 6, none⟩) lrb).trans c0
            have f1 := fun s : HeldIn wr => (s.h.cell (p := ⟨rb, i * 6 + 1, none⟩) lrb).trans c1
            have f2 := fun s : HeldIn wr => (s.h.cell (p := ⟨rb, i * 6 + 2, none⟩) lrb).trans c2
            have f3 := fun s : HeldIn wr => (s.h.cell (p := ⟨rb, i * 6 + 3, none⟩) lrb).trans c3
            have f4 := fun s : HeldIn wr => (s.h.cell (p := ⟨rb, i * 6 + 4, none⟩) lrb).trans c4
            have f5 := fun s : HeldIn wr => (s.h.cell (p := ⟨rb, i * 6 + 5, none⟩) lrb).trans c5
            clear hTk hT hI hMq hg hxb HNx1 hprr
            go_wp2_with fail
            refine wp_region_held_back _ (Below.refl _ _) (by kernel_rfl) (by simp) (by kernel_rfl) (by kernel_rfl) (by kernel_rfl) ?_
            simp only [List.pop_toArray, List.dropLast, List.back!_toArray, List.getLast!]
            repeat (go_big_quiet_step ((go_at_fn fv; exact held_of (hcl _))))
            refine wpQuiet_nil ?_
            rintro _ ⟨s, rfl⟩
            refine back_last (fun K hK => ?_)
            go_simp
            refine (HTa.out s.w s.h).mono ?_
            rintro r w5 ⟨⟨v5, rfl⟩, hM5, hg5⟩
            refine hK.out _ _ ?_
            have HM5 := hideg hM5
            have HG5 := hideg (HGr.out _ _ s.h hg5)
            clear hM5 hg5 hK K f0 f1 f2 f3 f4 f5 hne c0 c1 c2 c3 c4 c5 HTa HGr hcl hCt
            clear s
            by_cases hc1 : c = 1
            · have hm1 : m = 1 := by omega
              subst hc1
              subst hm1
              go_wp2
              go_roundw
              case rel => exact ⟨i + 1, 0, _, ⟨by omega, 0, _, rfl, by omega, fun h => absurd h (Nat.lt_irrefl _)⟩, HM5.out.mono (by omega), HT.out, HG5.out⟩
              case measure => simp
            · have hcm : m ≤ c := by omega
              have hc1' : ¬ (c : Int) = 1 := by omega
              go_wp2
              go_roundw
              case rel => exact ⟨i + 1, m - 1, _, ⟨by omega, c - 1, _, rfl, by omega, fun _ => by simp⟩, HM5.out.mono (by omega), HT.out, HG5.out⟩
              case measure => simp; omega
          · have ddn : decide (d ≤ now) = false := by simpa using hdn
            have HN := hideg (HNx1.out (by simp only; omega))
            have HM5 := hideg hMq
            have HG5 := hideg hg
            clear hTk hI hMq hg HNx1 hprr HTk
            go_wp2
            go_roundw
            case rel => exact ⟨i, m, _, now + 1, M, ⟨him, c, _, rfl, hic, fun _ => rfl⟩, rfl, by omega, by omega, Nat.le_refl _, HM5.out, HN.out, HG5.out⟩
            case measure => simp [intOf]; omega
        · have hm0 : m = 0 := by omega
          subst hm0
          have HN := hideg (HNx.out now i M hI (fun hi => by omega))
          have HM5 := hideg hMq
          have HG5 := hideg hg
          clear hI hMq hg HTk hao
          go_wp2
          go_roundw
          case rel => exact ⟨i, 0, _, now + 1, M, ⟨him, c, _, rfl, hic, fun h => absurd h (Nat.lt_irrefl _)⟩, rfl, by omega, by omega, Nat.le_refl _, HM5.out, HN.out, HG5.out⟩
          case measure => simp [intOf]; omega
    · have e : now = g.hor := by omega
      subst e
      have HE := hideg (hI.fin HRt.out HF.out)
      have HM5 := hideg hMk
      have HG5 := hideg (gby_trans (gby_of_below HB2.out.bel (some b)) hg)
      clear hI hMk hg
      go_wp2_with fail
      refine bodyPost_end (results_none rfl _ _ _) rfl ⟨⟨_, rfl⟩, ⟨nn, M, HM5.out, HE.out⟩, HG5.out⟩

end Go.Proofs.YtkgbgkcbflicmaiDoor

namespace Go.Proofs.YtkgbgkcbflicmaiDoor
open Go.RowKit

theorem stopHereP {p : Prop} (h : Hid p) : p := h
theorem wrap_rp (n : Int) (h0 : -9223372036854775808 ≤ n) (h1 : n < 9223372036854775808) : IntKind.i64.wrap n = n := by
  simp only [IntKind.wrap, IntKind.bits, IntKind.signed]
  simp
  omega
theorem run_copy_splice {P : Program} (w : World) (dT sT ty elem : TypeId) (hu : P.underlying dT = some (.slice elem)) (hsz : (P.info? elem).map (·.size) = some 1)
    (dp sp : Option Addr) (dLen dCap sLen sCap : Nat) (g off : Nat) (cur : List Value) (t : TypeId) (hg : w.heap[g]? = some (.cells cur.toArray t (0, 0))) (cs : List Value) (hn : cs.length = Nat.min sLen dLen)
    (hpos : 0 < cs.length → dp = some ⟨g, off, none⟩ ∧ ∃ ad, sp = some ad ∧ ∀ j v, cs[j]? = some v → w.cell? (ad.add j) = some v)
    (hfit : off + cs.length ≤ cur.length) (h1 : ∀ v ∈ cs, v.oneCell' = true) (B : Nat) (w0 : World) (hb : Below B w0 w) (hBg : B ≤ g) :
    ∃ w', (Builtin.copy_ #[dT, sT] ty #[.slice dp dLen dCap, .slice sp sLen sCap]).run P w = .ok (goInt cs.length) w' ∧ Hid (w'.heap[g]? = some (.cells (splice cur off cs).toArray t (0, 0))) ∧ Below B w0 w' := by
  by_cases h0 : cs.length = 0
  · obtain rfl : cs = [] := List.eq_nil_of_length_eq_zero h0
    exact ⟨w, run_copy_none (P := P) w dT sT ty elem dp sp dLen dCap sLen sCap hu hsz (by simpa using hn.symm), (show _ = _ by simpa [splice] using hg), hb⟩
  · obtain ⟨rfl, ad, rfl, hsrc⟩ := hpos (by omega)
    refine ⟨_, run_copy_row (P := P) w dT sT ty elem g off dLen dCap ad sLen sCap cur.toArray t cs hu hsz hg hn hsrc (by simpa using hfit) h1, ?_, below_setRow hb hBg _⟩
    exact (show _ = _ by simpa [splice] using setRow_heap w g _ _ t _ hg)
theorem splice_rep {N k m : Nat} {x : Int} {cur : List Value} (hl : cur.length = N) (hc : cur.take k = (List.replicate k x).map (Value.int .i64)) (hm : k + m ≤ N) :
    (splice cur k ((List.replicate m x).map (Value.int .i64))).length = N ∧ (splice cur k ((List.replicate m x).map (Value.int .i64))).take (k + m) = (List.replicate (k + m) x).map (Value.int .i64) := by
  refine ⟨by rw [length_splice _ _ _ (by simp; omega), hl], ?_⟩
  unfold splice
  rw [hc, ← List.append_assoc, ← List.map_append, List.replicate_append_replicate, List.take_append_of_le_length (by simp)]
  exact List.take_of_length_le (by simp)

set_option maxRecDepth 100000 in
set_option maxHeartbeats 4000000 in
theorem Repeat_any (x : Int) (ab ao cap N : Nat) (hN : N ≤ 12) (w : World) (hx : w.cell? ⟨ab, ao, none⟩ = some (.int .i64 x)) (hab : ab < w.heap.size) :
    Calls Tryd.prog 30 #[.slice (some ⟨ab, ao, none⟩) 1 cap, .int .i64 N] w fun e w' => e = .returned (.slice (some ⟨w.heap.size, 0, none⟩) N N) ∧ Zo w' w.heap.size w.heap.size N N (List.replicate N x) ∧ Below w.heap.size w w' := by
  obtain ⟨i0, hi, hz0, hz1, hz2⟩ := info_parts Tryd.infoInt
  have hMul := fun W => Tryd.bits_Mul 1 N (by omega) (by omega) W
  have e1 : (1 * N / 18446744073709551616 : Nat) = 0 := by omega
  have e2 : (1 * N % 18446744073709551616 : Nat) = N := by omega
  rw [e1, e2] at hMul
  have hszI : (Tryd.prog.info? 3).map (·.size) = some 1 := by rw [hi]; simp [hz1]
  have hN0 : ¬ (N : Int) < 0 := by omega
  have hwu : IntKind.u64.wrap (N : Int) = (N : Int) := by simp only [IntKind.wrap, IntKind.bits, IntKind.signed]; simp; omega
  have hwi : IntKind.i64.wrap (N : Int) = (N : Int) := wrap_rp _ (by omega) (by omega)
  have HX := hidep hx
  clear hx e1 e2
  go_enter Tryd.func30, Tryd.ntmps30
  go_wp2_with fail
  refine (hMul _).mono ?_
  rintro e w' ⟨rfl, hw'⟩
  rw [hw']
  clear hw' hMul
  go_wp2_with (at_make; refine wpList_make_full _ rfl _ _ 32 rfl w.heap.size 3 i0 (.int .i64 0) 1 Tryd.underlying32 hi hz0 hz1 .i64 .i64 _ _ N rfl rfl rfl rfl (by rw [hz2]; omega) (by unfold maxLen; omega) (by simp) ?_; intro w0 hown0 hgrow0)
  have hb0 : Below w.heap.size w w0 := (Below.refl _ _).grown hgrow0 (Nat.le_refl _) (fun k hk => by cases hk)
  have hx0 : w0.cell? ⟨ab, ao, none⟩ = some (.int .i64 x) := (hb0.cell (p := ⟨ab, ao, none⟩) hab).trans HX.out
  have e1 : (madeCells (Value.int .i64 0).cells (N * 1)).toList = (List.replicate N 0).map (Value.int .i64) := by
    rw [Nat.mul_one]
    show (madeCells #[Value.int .i64 0] N).toList = _
    rw [toList_madeCells_one, List.map_replicate]
  rw [e1] at hown0
  obtain ⟨cur0, hcl0, hg0⟩ : ∃ cur0 : List Value, cur0.length = N ∧ w0.heap[w.heap.size]? = some (.cells cur0.toArray 3 (0, 0)) := by
    rcases hown0.2 with ⟨h, _⟩ | ⟨g, cap', cur, e, _, hg, _, _, hcs, _⟩
    · cases h
    · cases e; exact ⟨cur.toList, by simpa using hcs, by simpa using hg⟩
  clear hown0 hgrow0 e1
  obtain ⟨m, hm⟩ : ∃ m, m = Nat.min 1 N := ⟨_, rfl⟩
  have hm1 : m ≤ 1 ∧ m ≤ N ∧ (N = 0 ∨ 1 ≤ m) := by
    have hm' : m = min 1 N := hm
    omega
  obtain ⟨cs, hcs⟩ : ∃ cs, cs = (List.replicate m x).map (Value.int .i64) := ⟨_, rfl⟩
  have hcl : cs.length = m := by rw [hcs]; simp
  have hc1 : ∀ v ∈ cs, v.oneCell' = true := by rw [hcs]; intro v hv; simp at hv; rw [hv.2]; rfl
  have hcg : ∀ j v, cs[j]? = some v → w0.cell? ((⟨ab, ao, none⟩ : Addr).add j) = some v := by
    intro j v hv
    rw [hcs] at hv
    have h0 : j = 0 := by
      have := (List.getElem?_eq_some_iff.1 hv).1
      simp at this; omega
    subst h0
    have := (List.getElem?_eq_some_iff.1 hv).2
    simp at this
    rw [← this]; simpa [Addr.add] using hx0
  have HCs := hidep hcs
  have HS := hidep (splice_rep (k := 0) (m := m) (x := x) hcl0 (by simp) (by omega))
  have HM := hidep hm
  have hm1i : (m : Int) ≤ N := by omega
  clear hcs hm
  obtain ⟨w1, hrun, hg1, hb1⟩ := run_copy_splice (P := Tryd.prog) w0 32 32 3 3 Tryd.underlying32 hszI (some ⟨w.heap.size, 0, none⟩) (some ⟨ab, ao, none⟩) N N 1 cap w.heap.size 0 cur0 3 hg0 cs (by rw [hcl, HM.out]) (fun _ => ⟨rfl, _, rfl, hcg⟩) (by omega) hc1 w.heap.size w hb0 (Nat.le_refl _)
  rw [hrun, hcl]
  clear hrun hc1 hcg hcl hg0 hb0 hx0
  simp only [Result.andThen]
  go_wp2_with fail
  go_loopw [8] (fun n wr => ∃ (k : Nat) (cur : List Value), k ≤ N ∧ (N = 0 ∨ 1 ≤ k) ∧ n = .int .i64 k ∧ cur.length = N ∧ cur.take k = (List.replicate k x).map (Value.int .i64) ∧ Hid (wr.heap[w.heap.size]? = some (.cells cur.toArray 3 (0, 0))) ∧ Below w.heap.size w wr) (fun n _ => N - (intOf n).toNat)
  case atStart =>
    refine ⟨m, splice cur0 0 cs, by omega, by omega, rfl, ?_, ?_, hg1, hb1⟩
    · rw [HCs.out]; exact HS.out.1
    · rw [HCs.out]; have := HS.out.2; rwa [Nat.zero_add] at this
  case round =>
    clear hg1 hb1 HCs HS HM
    obtain ⟨k, cur, hk, hk1, rfl, hcl, hct, hg, hb⟩ := hrel
    by_cases hkN : k < N
    · have hkNi : (k : Int) < (N : Int) := by omega
      have hne : ¬ N = k := by omega
      obtain ⟨m2, hm2⟩ : ∃ m, m = Nat.min k (N - k) := ⟨_, rfl⟩
      have hm2' : m2 ≤ k ∧ k + m2 ≤ N ∧ 1 ≤ m2 := by
        have hm' : m2 = min k (N - k) := hm2
        omega
      obtain ⟨cs2, hcs2⟩ : ∃ cs, cs = (List.replicate m2 x).map (Value.int .i64) := ⟨_, rfl⟩
      have hcl2 : cs2.length = m2 := by rw [hcs2]; simp
      have hc12 : ∀ v ∈ cs2, v.oneCell' = true := by rw [hcs2]; intro v hv; simp at hv; rw [hv.2]; rfl
      have hcg2 : ∀ j v, cs2[j]? = some v → wr.cell? ((⟨w.heap.size, 0, none⟩ : Addr).add j) = some v := by
        intro j v hv
        have hj := (List.getElem?_eq_some_iff.1 hv).1
        rw [hcl2] at hj
        rw [hcs2] at hv
        have h1 : (cur.take k)[j]? = some v := by
          rw [hct]
          simp [show j < k by omega, show j < m2 by omega] at hv ⊢
          exact hv
        rw [List.getElem?_take_of_lt (by omega)] at h1
        have hgo := hg.out
        have ea : (⟨w.heap.size, 0, none⟩ : Addr).add j = ⟨w.heap.size, j, none⟩ := by unfold Addr.add; split <;> simp_all
        rw [ea]
        simp [World.cell?, hgo, h1]
      have HE2 : Hid ((splice cur k cs2).length = N ∧ (splice cur k cs2).take (k + m2) = (List.replicate (k + m2) x).map (Value.int .i64)) := by
        rw [hcs2]; exact splice_rep hcl hct hm2'.2.1
      have hfit2 : k + cs2.length ≤ cur.length := by omega
      have hwk : IntKind.i64.wrap ((k : Int) + (m2 : Int)) = (k : Int) + (m2 : Int) := wrap_rp _ (by omega) (by omega)
      have HM2 := hidep hm2
      have hsub : ((N : Int) - (k : Int)).toNat = N - k := by omega
      clear hcs2 hm2 hct
      go_wp2_with fail
      refine Go.wp_region_held (S := fun _ => True) (by kernel_rfl) ?_
      have hSw : True := trivial
      refine take_lit (i := 0) (v := ?_) rfl (by kernel_rfl) (by kernel_rfl) (by kernel_rfl) (fun _ _ _ h => h) (Or.inl ⟨by rfl, ?hy0⟩) (by assumption) ?_
      case hy0 => (intro w hSw; (try dsimp only at hSw); go_simp; try with_reducible rfl)
      try simp only [Act.put, List.setIfInBounds_toArray, List.set_cons_zero, List.set_cons_succ]
      refine take_lit (i := 1) (v := ?_) rfl (by kernel_rfl) (by kernel_rfl) (by kernel_rfl) (fun _ _ _ h => h) (Or.inl ⟨by rfl, ?hy1⟩) (by assumption) ?_
      case hy1 => (intro w hSw; (try dsimp only at hSw); go_simp; try with_reducible rfl)
      try simp only [Act.put, List.setIfInBounds_toArray, List.set_cons_zero, List.set_cons_succ]
      refine take_lit (i := 2) (v := ?_) rfl (by kernel_rfl) (by kernel_rfl) (by kernel_rfl) (fun _ _ _ h => h) (Or.inl ⟨by rfl, ?hy2⟩) (by assumption) ?_
      case hy2 => (intro w hSw; (try dsimp only at hSw); go_simp; try with_reducible rfl)
      try simp only [Act.put, List.setIfInBounds_toArray, List.set_cons_zero, List.set_cons_succ]
      refine take_lit (i := 3) (v := ?_) rfl (by kernel_rfl) (by kernel_rfl) (by kernel_rfl) (fun _ _ _ h => h) (Or.inl ⟨by rfl, ?hy3⟩) (by assumption) ?_
      case hy3 => (intro w hSw; (try dsimp only at hSw); go_simp; try with_reducible rfl)
      try simp only [Act.put, List.setIfInBounds_toArray, List.set_cons_zero, List.set_cons_succ]
      refine take_lit (i := 4) (v := ?_) rfl (by kernel_rfl) (by kernel_rfl) (by kernel_rfl) (fun _ _ _ h => h) (Or.inl ⟨by rfl, ?hy4⟩) (by assumption) ?_
      case hy4 => (intro w hSw; (try dsimp only at hSw); go_simp; try with_reducible rfl)
      try simp only [Act.put, List.setIfInBounds_toArray, List.set_cons_zero, List.set_cons_succ]
      refine take_lit (i := 5) (v := ?_) rfl (by kernel_rfl) (by kernel_rfl) (by kernel_rfl) (fun _ _ _ h => h) (Or.inl ⟨by rfl, ?hy5⟩) (by assumption) ?_
      case hy5 => (intro w hSw; (try dsimp only at hSw); go_simp; try with_reducible rfl)
      try simp only [Act.put, List.setIfInBounds_toArray, List.set_cons_zero, List.set_cons_succ]
      refine take_lit (i := 6) (v := ?_) rfl (by kernel_rfl) (by kernel_rfl) (by kernel_rfl) (fun _ _ _ h => h) (Or.inl ⟨by rfl, ?hy6⟩) (by assumption) ?_
      case hy6 => (intro w hSw; (try dsimp only at hSw); go_simp; try with_reducible rfl)
      try simp only [Act.put, List.setIfInBounds_toArray, List.set_cons_zero, List.set_cons_succ]
      refine next_lit (i := 7) rfl (by kernel_rfl) (fun K hK => ?_)
      go_simp
      obtain ⟨w4, hrun, hg4, hb4⟩ := run_copy_splice (P := Tryd.prog) wr.drew 32 32 3 3 Tryd.underlying32 hszI (some ⟨w.heap.size, k, none⟩) (some ⟨w.heap.size, 0, none⟩) (N - k) (N - k) k N w.heap.size k cur 3 hg.out cs2 (by rw [hcl2, HM2.out]) (fun _ => ⟨rfl, _, rfl, hcg2⟩) hfit2 hc12 w.heap.size w (below_drewN hb 1) (Nat.le_refl _)
      rw [hrun, hcl2]
      clear hrun
      simp only [Result.andThen]
      go_simp
      refine hK.out _ _ trivial (fun _ => ?_)
      clear hK K
      try simp only [Act.put, List.setIfInBounds_toArray, List.set_cons_zero, List.set_cons_succ]
      refine take_lit (i := 8) (v := ?_) rfl (by kernel_rfl) (by kernel_rfl) (by kernel_rfl) (fun _ _ _ h => h) (Or.inl ⟨by rfl, ?hy8⟩) (by assumption) ?_
      case hy8 => (intro w hSw; (try dsimp only at hSw); go_simp; try with_reducible rfl)
      try simp only [Act.put, List.setIfInBounds_toArray, List.set_cons_zero, List.set_cons_succ]
      refine take_lit (i := 9) (v := ?_) rfl (by kernel_rfl) (by kernel_rfl) (by kernel_rfl) (fun _ _ _ h => h) (Or.inl ⟨by rfl, ?hy9⟩) (by assumption) ?_
      case hy9 => (intro w hSw; (try dsimp only at hSw); go_simp; try with_reducible rfl)
      try simp only [Act.put, List.setIfInBounds_toArray, List.set_cons_zero, List.set_cons_succ]
      refine wpAnyH_done (by kernel_rfl) ?_ _
      go_wp2
      go_roundw
      case rel => exact ⟨k + m2, splice cur k cs2, by omega, by omega, by go_num, HE2.out.1, HE2.out.2, hg4, hb4⟩
      case measure => simp [intOf]; omega
    · have hke : N = k := by omega
      subst hke
      have HZ : Hid (Zo wr w.heap.size w.heap.size N N (List.replicate N x)) := by
        refine ⟨by simp, .inr ⟨w.heap.size, N, cur.toArray, rfl, Nat.le_refl _, hg.out, Nat.le_refl _, by unfold maxLen; omega, by simp [hcl], by simpa using hct⟩⟩
      clear hct hg hcl
      go_wp2
      go_ret
      exact ⟨rfl, HZ.out, hb⟩

end Go.Proofs.YtkgbgkcbflicmaiDoor

namespace Go.Proofs.YtkgbgkcbflicmaiDoor
open Go.RowKit

end Go.Proofs.YtkgbgkcbflicmaiDoor

namespace Go.Proofs.YtkgbgkcbflicmaiDoor
open Go.RowKit

theorem wrap_nr (n : Int) (h0 : -9223372036854775808 ≤ n) (h1 : n < 9223372036854775808) : IntKind.i64.wrap n = n := by
  simp only [IntKind.wrap, IntKind.bits, IntKind.signed]
  simp
  omega

/-- a graph in a box -/
structure GBox (w W : World) (B : Nat) (g : Gr) (la ea : Option Addr) (lc ec : Nat) : Prop where
  c0 : W.cell? ⟨B, 0, none⟩ = some (.int .i64 g.hor)
  c1 : W.cell? ⟨B, 1, none⟩ = some (.slice la g.lives.length lc)
  c2 : W.cell? ⟨B, 2, none⟩ = some (.slice ea g.edges.length ec)
  bel : Below w.heap.size w W
  lt : B < W.heap.size
theorem gbox_start (w : World) (g : Gr) (la ea : Option Addr) (lc ec : Nat) (T : TypeId) : GBox w (w.alloc (.cells #[.int .i64 g.hor, .slice la g.lives.length lc, .slice ea g.edges.length ec] T)) w.heap.size g la ea lc ec :=
  ⟨by simp, by simp, by simp, gal w _, by simp⟩
theorem GBox.below {w W W' : World} {B : Nat} {g : Gr} {la ea : Option Addr} {lc ec : Nat} (h : GBox w W B g la ea lc ec) (hb : Below W.heap.size W W') : GBox w W' B g la ea lc ec :=
  ⟨(hb.cell (p := ⟨B, 0, none⟩) h.lt).trans h.c0, (hb.cell (p := ⟨B, 1, none⟩) h.lt).trans h.c1, (hb.cell (p := ⟨B, 2, none⟩) h.lt).trans h.c2, ptg h.bel hb, Nat.lt_of_lt_of_le h.lt hb.size⟩
theorem GBox.drewN {w W : World} {B : Nat} {g : Gr} {la ea : Option Addr} {lc ec : Nat} (h : GBox w W B g la ea lc ec) (n : Nat) : GBox w (W.drewN n) B g la ea lc ec := ⟨h.c0, h.c1, h.c2, below_drewN h.bel n, h.lt⟩

/-- a graph, an edge and a leg in boxes -/
structure LBox (w W : World) (B E K : Nat) (g : Gr) (la ea : Option Addr) (lc ec : Nat) (e : Ed) (l : Lg) : Prop where
  gb : GBox w W B g la ea lc ec
  e0 : W.cell? ⟨E, 0, none⟩ = some (.int .i64 e.1)
  e1 : W.cell? ⟨E, 1, none⟩ = some (.int .i64 e.2.1)
  l2 : W.cell? ⟨K, 2, none⟩ = some (.int .i64 l.2.2.1)
  l3 : W.cell? ⟨K, 3, none⟩ = some (.int .i64 l.2.2.2)
  ltE : E < W.heap.size
  ltK : K < W.heap.size
theorem LBox.below {w W W' : World} {B E K : Nat} {g : Gr} {la ea : Option Addr} {lc ec : Nat} {e : Ed} {l : Lg} (h : LBox w W B E K g la ea lc ec e l) (hb : Below W.heap.size W W') : LBox w W' B E K g la ea lc ec e l :=
  ⟨h.gb.below hb, (hb.cell (p := ⟨E, 0, none⟩) h.ltE).trans h.e0, (hb.cell (p := ⟨E, 1, none⟩) h.ltE).trans h.e1, (hb.cell (p := ⟨K, 2, none⟩) h.ltK).trans h.l2, (hb.cell (p := ⟨K, 3, none⟩) h.ltK).trans h.l3, Nat.lt_of_lt_of_le h.ltE hb.size, Nat.lt_of_lt_of_le h.ltK hb.size⟩

/-- what Lands tells -/
def landsV (o : Option (Int × Int)) : Value := .tuple #[.int .i64 (o.getD (0, 0)).1, .int .i64 (o.getD (0, 0)).2, .bool o.isSome]

end Go.Proofs.YtkgbgkcbflicmaiDoor

namespace Go.Proofs.YtkgbgkcbflicmaiDoor
open Go.RowKit

theorem results_two_e {fn : Func} {t u : Tmp} (h : fn.results = #[.tmp t, .tmp u]) (tmps : Array Value) (P : Program) (w : World) :
    (results fn tmps).run P w = .ok (.tuple #[tmps.getD t undef, tmps.getD u undef]) w := by
  simp [results, h]
theorem made_six (n : Nat) : (madeCells (Value.agg #[.int .i64 0, .int .i64 0, .int .i64 0, .int .i64 0, .int .i64 0, .int .i64 0]).cells (n * 6)).toList = encRs (List.replicate n (0, 0, 0, 0, 0, 0)) := by
  apply List.ext_getElem?
  intro j
  have hl : (madeCells (Value.agg #[.int .i64 0, .int .i64 0, .int .i64 0, .int .i64 0, .int .i64 0, .int .i64 0]).cells (n * 6)).toList.length = n * 6 := by rw [Array.length_toList, size_madeCells]
  by_cases hj : j < n * 6
  · have e0 : ∀ x ∈ encRs (List.replicate n ((0 : Int), (0 : Int), (0 : Int), (0 : Int), (0 : Int), (0 : Int))), x = Value.int .i64 0 := by
      intro x hx
      unfold encRs at hx
      simp only [List.mem_flatMap, List.mem_replicate] at hx
      obtain ⟨y, ⟨_, rfl⟩, hy⟩ := hx
      simp [encR] at hy
      exact hy
    have hj2 : j < (encRs (List.replicate n ((0 : Int), (0 : Int), (0 : Int), (0 : Int), (0 : Int), (0 : Int)))).length := by rw [encRs_length, List.length_replicate]; exact hj
    rw [List.getElem?_eq_getElem (by omega), List.getElem?_eq_getElem hj2, e0 _ (List.getElem_mem hj2)]
    congr 1
    have h3 : (Value.agg #[.int .i64 0, .int .i64 0, .int .i64 0, .int .i64 0, .int .i64 0, .int .i64 0]).cells = #[Value.int .i64 0, .int .i64 0, .int .i64 0, .int .i64 0, .int .i64 0, .int .i64 0] := by rfl
    simp only [madeCells, h3, Array.getElem_toList, Array.getElem_map, Array.getElem_range]
    have : j % 6 = 0 ∨ j % 6 = 1 ∨ j % 6 = 2 ∨ j % 6 = 3 ∨ j % 6 = 4 ∨ j % 6 = 5 := by omega
    rcases this with e | e | e | e | e | e <;> simp [e]
  · rw [List.getElem?_eq_none (by omega), List.getElem?_eq_none (by rw [encRs_length, List.length_replicate]; omega)]
theorem encRs_cons (x : Ri) (l : List Ri) : encRs (x :: l) = .int .i64 x.1 :: .int .i64 x.2.1 :: .int .i64 x.2.2.1 :: .int .i64 x.2.2.2.1 :: .int .i64 x.2.2.2.2.1 :: .int .i64 x.2.2.2.2.2 :: encRs l := by simp [encRs, encR]
theorem encRs_set : ∀ (m : List Ri) (k : Nat) (q : Ri), k < m.length → ((((((encRs m).set (k * 6) (.int .i64 q.1)).set (k * 6 + 1) (.int .i64 q.2.1)).set (k * 6 + 2) (.int .i64 q.2.2.1)).set (k * 6 + 3) (.int .i64 q.2.2.2.1)).set (k * 6 + 4) (.int .i64 q.2.2.2.2.1)).set (k * 6 + 5) (.int .i64 q.2.2.2.2.2) = encRs (m.set k q)
  | [], k, q, h => by simp at h
  | x :: m, 0, q, _ => by
    have e : (x :: m).set 0 q = q :: m := rfl
    rw [e, encRs_cons, encRs_cons]; rfl
  | x :: m, k + 1, q, h => by
    have ih := encRs_set m k q (by simpa using h)
    have e : (x :: m).set (k + 1) q = x :: m.set k q := rfl
    rw [e, encRs_cons, encRs_cons, ← ih, show (k + 1) * 6 = k * 6 + 1 + 1 + 1 + 1 + 1 + 1 from by omega]
    rfl
/-- a row of rides, in memory of the call's own -/
abbrev Ro (w : World) (base gb n cap : Nat) (x : List Ri) : Prop := w.ownsRow base 67 6 (.slice (some ⟨gb, 0, none⟩) n cap) n (encRs x)
theorem Ro.len {w : World} {base gb n cap : Nat} {x : List Ri} (h : Ro w base gb n cap x) : x.length = n := by have := h.1; rw [encRs_length] at this; omega
theorem Ro.one {w : World} {base gb n cap : Nat} {x : List Ri} (h : Ro w base gb n cap x) {k : Nat} (hk : k < n) : RdOne w gb (k * 6) (x.getD k ri0) := by
  have hl := h.len
  obtain ⟨f0, f1, f2, f3, f4, f5⟩ := encRs_get x k (by omega)
  refine ⟨?_, ?_, ?_, ?_, ?_, ?_⟩
  · rw [World.ownsRow.cellAt h (k * 6) (by omega)]; exact f0
  · rw [World.ownsRow.cellAt h (k * 6 + 1) (by omega)]; exact f1
  · rw [World.ownsRow.cellAt h (k * 6 + 2) (by omega)]; exact f2
  · rw [World.ownsRow.cellAt h (k * 6 + 3) (by omega)]; exact f3
  · rw [World.ownsRow.cellAt h (k * 6 + 4) (by omega)]; exact f4
  · rw [World.ownsRow.cellAt h (k * 6 + 5) (by omega)]; exact f5
/-- a ride written into five cells -/
def setR (w : World) (gb k : Nat) (q : Ri) : World := (((((w.setCell ⟨gb, k * 6, none⟩ (.int .i64 q.1)).setCell ⟨gb, k * 6 + 1, none⟩ (.int .i64 q.2.1)).setCell ⟨gb, k * 6 + 2, none⟩ (.int .i64 q.2.2.1)).setCell ⟨gb, k * 6 + 3, none⟩ (.int .i64 q.2.2.2.1)).setCell ⟨gb, k * 6 + 4, none⟩ (.int .i64 q.2.2.2.2.1)).setCell ⟨gb, k * 6 + 5, none⟩ (.int .i64 q.2.2.2.2.2)
theorem Ro.set {w : World} {base gb n cap : Nat} {x : List Ri} (h : Ro w base gb n cap x) {k : Nat} (hk : k < n) (q : Ri) : Ro (setR w gb k q) base gb n cap (x.set k q) := by
  have hl := h.len
  have h5 := (World.ownsRow.stored ((World.ownsRow.stored ((World.ownsRow.stored ((World.ownsRow.stored ((World.ownsRow.stored ((World.ownsRow.stored h (k * 6) (.int .i64 q.1)).1) (k * 6 + 1) (.int .i64 q.2.1)).1) (k * 6 + 2) (.int .i64 q.2.2.1)).1) (k * 6 + 3) (.int .i64 q.2.2.2.1)).1) (k * 6 + 4) (.int .i64 q.2.2.2.2.1)).1) (k * 6 + 5) (.int .i64 q.2.2.2.2.2)).1
  rw [encRs_set x k q (by omega)] at h5
  exact h5
theorem setR_other {w : World} {base : Nat} {e : TypeId} {size : Nat} {v : Value} {n : Nat} {xs : List Value} (h : w.ownsRow base e size v n xs) {gb k : Nat} (ha : v.ownBlock ≠ some gb) (q : Ri) : (setR w gb k q).ownsRow base e size v n xs :=
  ownsRow_setCell_other (ownsRow_setCell_other (ownsRow_setCell_other (ownsRow_setCell_other (ownsRow_setCell_other (ownsRow_setCell_other h ha _) ha _) ha _) ha _) ha _) ha _
theorem setR_below {B : Nat} {w0 w : World} (h : Below B w0 w) {gb : Nat} (hg : B ≤ gb) (k : Nat) (q : Ri) : Below B w0 (setR w gb k q) :=
  (((((h.setCell (p := ⟨gb, k * 6, none⟩) hg _).setCell (p := ⟨gb, k * 6 + 1, none⟩) hg _).setCell (p := ⟨gb, k * 6 + 2, none⟩) hg _).setCell (p := ⟨gb, k * 6 + 3, none⟩) hg _).setCell (p := ⟨gb, k * 6 + 4, none⟩) hg _).setCell (p := ⟨gb, k * 6 + 5, none⟩) hg _
theorem cellFar {w : World} {b j b' j' : Nat} {v : Value} (h : b' ≠ b) : (w.setCell ⟨b, j, none⟩ v).cell? ⟨b', j', none⟩ = w.cell? ⟨b', j', none⟩ := by
  refine World.cell?_setCell_other _ _ _ _ (fun e => h ?_)
  have := congrArg Addr.block e
  exact this.symm
theorem own_none {v : Value} {b : Nat} (h : ∀ k, v.ownBlock = some k → b < k) : v.ownBlock ≠ some b := fun e => Nat.lt_irrefl _ (h b e)

/-- what earliest holds while it looks at the rides -/
structure ErSt (w0 w : World) (m1 m2 m3 n : Nat) (u : Value) (rides : List Ri) (T : List Int) (L : List Ri) : Prop where
  t : Zo w w0.heap.size m1 n n T
  l : Ro w w0.heap.size m2 n n L
  r : w.ownsRow m3 67 6 u rides.length (encRs rides)
  b : Below w0.heap.size w0 w
theorem ErSt.below {w0 w w' : World} {m1 m2 m3 n : Nat} {u : Value} {rides : List Ri} {T : List Int} {L : List Ri} (h : ErSt w0 w m1 m2 m3 n u rides T L) (hb : Below w.heap.size w w') : ErSt w0 w' m1 m2 m3 n u rides T L :=
  ⟨ownsRow_below h.t hb, ownsRow_below h.l hb, ownsRow_below h.r hb, h.b.trans (hb.mono h.b.size)⟩
theorem ErSt.set {w0 w : World} {m1 m2 m3 n : Nat} {u : Value} {rides : List Ri} {T : List Int} {L : List Ri} (h : ErSt w0 w m1 m2 m3 n u rides T L) (h12 : m1 < m2) (h23 : m2 < m3) {k : Nat} (hk : k < n) (x : Int) (q : Ri) :
    ErSt w0 (setR (w.setCell ⟨m1, k, none⟩ (.int .i64 x)) m2 k q) m1 m2 m3 n u rides (T.set k x) (L.set k q) := by
  have hm1 : w0.heap.size ≤ m1 := (h.t.lt m1 rfl).1
  have hu : ∀ b, b < m3 → u.ownBlock ≠ some b := fun b hb => own_none fun k hk => Nat.lt_of_lt_of_le hb (h.r.lt k hk).1
  refine ⟨setR_other (h.t.set k x) (by simp [Value.ownBlock]; omega) q, ?_, setR_other (ownsRow_setCell_other h.r (hu m1 (by omega)) _) (hu m2 h23) q, setR_below (h.b.setCell (p := ⟨m1, k, none⟩) hm1 _) (by omega) k q⟩
  exact Ro.set (ownsRow_setCell_other h.l (by simp [Value.ownBlock]; omega) _) hk q
theorem ErSt.ride {w0 w : World} {m1 m2 m3 n : Nat} {u : Value} {rides : List Ri} {T : List Int} {L : List Ri} (h : ErSt w0 w m1 m2 m3 n u rides T L) {k : Nat} (hk : k < rides.length) : ∃ rb cap, u = .slice (some ⟨rb, 0, none⟩) rides.length cap ∧ rb < w.heap.size ∧ RdOne w rb (k * 6) (rides.getD k ri0) := by
  have hr := h.r
  rcases hr.2 with ⟨_, h0⟩ | ⟨rb, cap, cur, e, _, hh, _⟩
  · omega
  · rw [e] at hr
    exact ⟨rb, cap, e, (Array.getElem?_eq_some_iff.1 hh).1, Ro.one hr hk⟩

set_option maxRecDepth 100000 in
set_option maxHeartbeats 400000 in
theorem earliest_any (g : Gr) (la ea : Option Addr) (lc ec : Nat) (v t : Int) (w : World) (hG : GAt w la ea g) (hpl : placeE g v t = 0) :
    Calls Tryd.prog 18 #[.agg #[.int .i64 g.hor, .slice la g.lives.length lc, .slice ea g.edges.length ec], .int .i64 v, .int .i64 t] w fun r w' => ∃ m1 m2, r = .returned (.tuple #[.slice (some ⟨m1, 0, none⟩) g.lives.length g.lives.length, .slice (some ⟨m2, 0, none⟩) g.lives.length g.lives.length]) ∧ Zo w' w.heap.size m1 g.lives.length g.lives.length (erF g v t).1 ∧ Ro w' w.heap.size m2 g.lives.length g.lives.length (erF g v t).2 ∧ Below w.heap.size w w' := by
  obtain ⟨i0, hi, hz0, hz1, hz2⟩ := info_parts Tryd.infoRide
  obtain ⟨hg0, ⟨hv0, hv1⟩, ht0, ht1⟩ := placeE_zero hpl
  have hR := gChk_right hg0
  have hn12 := hR.lvs
  obtain ⟨V, rfl⟩ : ∃ V : Nat, v = (V : Int) := ⟨v.toNat, by omega⟩
  have hVg : V < g.lives.length := by omega
  obtain ⟨w1, hw1⟩ : ∃ x, x = w.alloc (.cells #[.int .i64 g.hor, .slice la g.lives.length lc, .slice ea g.edges.length ec] 25) := ⟨_, rfl⟩
  have B1 : GBx w w1 w.heap.size g la ea lc ec := by rw [hw1]; exact gbx_start w g la ea lc ec 25
  obtain ⟨w2, hw2⟩ : ∃ x, x = w1.alloc (.cells #[.int .i64 1099511627776] 3) := ⟨_, rfl⟩
  have B2 : GBx w w2 w.heap.size g la ea lc ec := by rw [hw2]; exact B1.below (gal w1 _)
  have hs1 : w1.heap.size = w.heap.size + 1 := by rw [hw1]; simp
  have hs2 : w2.heap.size = w.heap.size + 1 + 1 := by rw [hw2]; simp [hs1]
  have hRep := Repeat_any 1099511627776 (w.heap.size + 1) 0 1 g.lives.length (by omega) w2 (by rw [hw2]; exact new_cell hs1.symm rfl) (by omega)
  have g1 := B2.c1
  have HG := hideg hG
  have HB2 := hideg B2
  have HRt := hideg hR
  have hw1s := hw1.symm
  have hw2s := hw2.symm
  clear hG hpl hg0 hR B1 B2 hw1 hw2
  go_enter Tryd.func18, Tryd.ntmps18
  go_wp2_with fail
  refine hRep.mono ?_
  rintro r w3 ⟨rfl, hZ3, hb3⟩
  have B3 := HB2.out.below hb3
  have g1' := B3.c1
  have hs3 := (World.ownsRow.lt hZ3 _ rfl).2
  clear hRep hw1s hw2s g1 HB2
  go_wp2_with (at_make; refine wpList_make_full _ rfl _ _ 61 rfl w.heap.size 67 i0 _ 6 Tryd.underlying61 hi hz0 hz1 .i64 .i64 _ _ g.lives.length rfl rfl rfl rfl (by rw [hz2]; omega) (by unfold maxLen; omega) (by omega) ?_; intro w4 hown4 hgrow4; refine stopHereR ?_)
  refine hideg ?_
  rw [made_six] at hown4
  have hb4 : Below w3.heap.size w3 w4 := (Below.refl _ _).grown hgrow4 (Nat.le_refl _) (fun k hk => by cases hk)
  have B4 := B3.below hb4
  have hZ4 := owns_base2 (ownsRow_below hZ3 hb4) (show w.heap.size ≤ w2.heap.size by omega)
  have hGA := HG.out.below B4.bel
  obtain ⟨lb, lof, rfl, hlb, hlc⟩ : ∃ b off, la = some ⟨b, off, none⟩ ∧ b < w4.heap.size ∧ (w4.cell? ⟨b, off + V * 2, none⟩ = some (.int .i64 g.lives[V].1) ∧ w4.cell? ⟨b, off + V * 2 + 1, none⟩ = some (.int .i64 g.lives[V].2)) := by
    rcases hGA.lv with h0 | ⟨b, off, rfl, hbr, hc⟩
    · rw [h0] at hVg; simp at hVg
    exact ⟨b, off, rfl, hbr, IvAt.get hVg hc⟩
  obtain ⟨lc0, lc1⟩ := hlc
  have g1 := B4.c1
  have hs4 := (World.ownsRow.lt hown4 _ rfl).2
  have hal := fun W => jalive_any g.lives[V].1 g.lives[V].2 t W
  rw [← aliveB_at t g.lives V hVg] at hal
  have HB4 := hideg B4
  clear hgrow4 hb4 B3 B4 hZ3 hb3 g1' hGA
  cases ha : aliveB t g.lives (V : Int) with
  | false =>
    rw [ha] at hal
    have HE : Hid (erF g (V : Int) t = (List.replicate g.lives.length 1099511627776, List.replicate g.lives.length (0, 0, 0, 0, 0, 0))) := by show _ = _; unfold erF; rw [if_neg (by rw [ha]; simp)]
    clear ha
    go_wp2_with fail
    refine (hal _).mono ?_
    rintro r w5 ⟨rfl, hb5⟩
    have hZ5 := ownsRow_below hZ4 hb5
    rw [hs2] at hZ5
    have HZ5 := hideg hZ5
    have HL5 := hideg (ownsRow_below hown4 hb5)
    have HB5 := hideg (HB4.out.below hb5).bel
    clear hal hb5 hZ4 hown4 HB4 lc0 lc1 g1 hZ5
    go_wp2
    (try simp only [Exit.inBlock, Exit.then]); refine bodyPost_ret (results_two_e rfl _ _ _) rfl ?_
    exact ⟨_, _, rfl, by rw [HE.out]; exact HZ5.out, by rw [HE.out]; exact HL5.out, HB5.out⟩
  | true =>
    rw [ha] at hal
    have HE : Hid (erF g (V : Int) t = erGo (er0 g (V : Int) t) (ridesF g)) := by show _ = _; unfold erF; rw [if_pos ha]
    clear ha
    go_wp2_with fail
    refine (hal _).mono ?_
    rintro r w5 ⟨rfl, hb5⟩
    have hZ5 := ownsRow_below hZ4 hb5
    have hL5 := ownsRow_below hown4 hb5
    have B5 := HB4.out.below hb5
    have hs5 := hb5.size
    have fz := World.ownsRow.frozenAt hZ5 V
    have cv := Zo.cell hZ5 hVg
    rw [hs2] at fz cv
    clear hal hb5 hZ4 hown4 HB4 lc0 lc1 g1
    obtain ⟨w6, hw6⟩ : ∃ x, x = w5.setCell ⟨w.heap.size + 1 + 1, V, none⟩ (.int .i64 t) := ⟨_, rfl⟩
    have hZ6 : Zo w6 w.heap.size (w.heap.size + 1 + 1) g.lives.length g.lives.length (er0 g (V : Int) t).1 := by
      rw [hw6]; rw [hs2] at hZ5
      have := Zo.set hZ5 V t
      simpa [er0] using this
    have hL6 : Ro w6 w.heap.size w3.heap.size g.lives.length g.lives.length (er0 g (V : Int) t).2 := by
      rw [hw6]; exact ownsRow_setCell_other hL5 (by simp [Value.ownBlock]; omega) _
    have hb6 : Below w.heap.size w w6 := by rw [hw6]; exact B5.bel.setCell (p := ⟨w.heap.size + 1 + 1, V, none⟩) (by simp only; omega) _
    have hs6 : w5.heap.size = w6.heap.size := by rw [hw6]; simp [World.setCell]
    have k0 : w6.cell? ⟨w.heap.size, 0, none⟩ = some (.int .i64 g.hor) := by rw [hw6, cellFar (by omega)]; exact B5.c0
    have k1 : w6.cell? ⟨w.heap.size, 1, none⟩ = some (.slice (some ⟨lb, lof, none⟩) g.lives.length lc) := by rw [hw6, cellFar (by omega)]; exact B5.c1
    have k2 : w6.cell? ⟨w.heap.size, 2, none⟩ = some (.slice ea g.edges.length ec) := by rw [hw6, cellFar (by omega)]; exact B5.c2
    have hRd := Rides_any g (some ⟨lb, lof, none⟩) ea lc ec w6 (HG.out.below hb6) HRt.out
    have hw6s := hw6.symm
    clear hw6 hZ5 hL5 B5
    obtain ⟨M1, hM1⟩ : ∃ M, M = w.heap.size + 1 + 1 := ⟨_, rfl⟩
    obtain ⟨M2, hM2⟩ : ∃ M, M = w3.heap.size := ⟨_, rfl⟩
    obtain ⟨M3, hM3⟩ : ∃ M, M = w6.heap.size := ⟨_, rfl⟩
    have h12 : M1 < M2 := by omega
    have h23 : M2 < M3 := by omega
    go_wp2_with fail
    refine hRd.mono ?_
    rintro r w7 ⟨u, rfl, hu7, hb7⟩
    rw [← hM1, ← hM2]
    rw [← hM1] at hZ6
    rw [← hM2] at hL6
    rw [← hM3] at hu7
    have S7 : ErSt w w7 M1 M2 M3 g.lives.length u (ridesF g) (erGo (er0 g (V : Int) t) ((ridesF g).take 0)).1 (erGo (er0 g (V : Int) t) ((ridesF g).take 0)).2 := ⟨ownsRow_below hZ6 hb7, ownsRow_below hL6 hb7, hu7, hb6.trans (hb7.mono hb6.size)⟩
    have hok : ∀ r ∈ ridesF g, RideOk g r := fun r hr => mem_rides HRt.out hr
    have hll : (ridesF g).length ≤ 3000 := Nat.le_trans (ridesTo_len g _) (Nat.le_trans (Nat.mul_le_mul (show g.hor.toNat ≤ 100 by have := HRt.out.hor; omega) HRt.out.eds) (by omega))
    obtain ⟨ao, cap, rfl, _⟩ := rdAt_of_owns hu7
    generalize ridesF g = rides at *
    have HOk := hideg hok
    clear hRd hw6s hZ6 hL6 hb6 hu7 hb7 k0 k1 k2 fz cv hM1 hM2 hM3 hs6 hs5 hs4 hs3 hs2 hs1 HG HRt hok hlb
    go_wp2_with fail
    go_loopw [38] (fun i wr => ∃ k : Nat, k ≤ rides.length ∧ i = .int .i64 k ∧ ErSt w wr M1 M2 M3 g.lives.length (.slice ao rides.length cap) rides (erGo (er0 g (V : Int) t) (rides.take k)).1 (erGo (er0 g (V : Int) t) (rides.take k)).2) (fun i _ => rides.length - (intOf i).toNat)
    case atStart => exact ⟨0, Nat.zero_le _, rfl, S7⟩
    case round =>
      clear S7
      obtain ⟨k, hk, rfl, S⟩ := hrel
      by_cases hkl : k < rides.length
      · have hkli : (k : Int) < (rides.length : Int) := by omega
        have hkw : IntKind.i64.wrap ((k : Int) + 1) = (k : Int) + 1 := wrap_nj _ (by omega) (by omega)
        obtain ⟨rb, cap', e, hrb, hRo⟩ := S.ride hkl
        simp only [Value.slice.injEq, true_and] at e
        obtain ⟨rfl, rfl⟩ := e
        have hmem := HOk.out rides[k] (List.getElem_mem hkl)
        have hgd : rides.getD k ri0 = rides[k] := by rw [List.getD_eq_getElem?_getD, List.getElem?_eq_getElem hkl]; rfl
        have HT := hideg (erGo_take (s := er0 g (V : Int) t) hkl)
        rw [hgd] at hRo
        generalize rides[k] = rr at *
        obtain ⟨E, d, a, b, ar, c⟩ := rr
        have ha0 := hmem.a0
        have hb0 := hmem.b0
        simp only at ha0 hb0
        obtain ⟨A, rfl⟩ : ∃ A : Nat, a = (A : Int) := ⟨a.toNat, by omega⟩
        obtain ⟨B, rfl⟩ : ∃ B : Nat, b = (B : Int) := ⟨b.toNat, by omega⟩
        have hA : A < g.lives.length := by omega
        have hB : B < g.lives.length := by omega
        generalize (erGo (er0 g (V : Int) t) (rides.take k)).1 = T at *
        generalize (erGo (er0 g (V : Int) t) (rides.take k)).2 = L at *
        obtain ⟨wa, hwa⟩ : ∃ x, x = wr.alloc (.cells #[.int .i64 E, .int .i64 d, .int .i64 (A : Int), .int .i64 (B : Int), .int .i64 ar, .int .i64 c] 67) := ⟨_, rfl⟩
        have c0 := hRo.c0
        have c1 := hRo.c1
        have c2 := hRo.c2
        have c3 := hRo.c3
        have c4 := hRo.c4
        have c5 := hRo.c5
        simp only at c0 c1 c2 c3 c4 c5
        have Sa : ErSt w wa M1 M2 M3 g.lives.length (.slice (some ⟨rb, 0, none⟩) rides.length cap) rides T L := by rw [hwa]; exact S.below (gal wr _)
        have xa := Zo.cell Sa.t hA
        have xb := Zo.cell Sa.t hB
        have y0 : wa.cell? ⟨wr.heap.size, 0, none⟩ = some (.int .i64 E) := by rw [hwa]; exact new_cell rfl rfl
        have y1 : wa.cell? ⟨wr.heap.size, 1, none⟩ = some (.int .i64 d) := by rw [hwa]; exact new_cell rfl rfl
        have y2 : wa.cell? ⟨wr.heap.size, 2, none⟩ = some (.int .i64 (A : Int)) := by rw [hwa]; exact new_cell rfl rfl
        have y3 : wa.cell? ⟨wr.heap.size, 3, none⟩ = some (.int .i64 (B : Int)) := by rw [hwa]; exact new_cell rfl rfl
        have y4 : wa.cell? ⟨wr.heap.size, 4, none⟩ = some (.int .i64 ar) := by rw [hwa]; exact new_cell rfl rfl
        have y5 : wa.cell? ⟨wr.heap.size, 5, none⟩ = some (.int .i64 c) := by rw [hwa]; exact new_cell rfl rfl
        have hwas := hwa.symm
        have HSa := hideg Sa
        have HS0 : Hid (M1 < wr.heap.size ∧ M2 < wr.heap.size) := ⟨(World.ownsRow.lt S.t _ rfl).2, (World.ownsRow.lt S.l _ rfl).2⟩
        clear hRo S Sa hmem hgd hwa
        obtain ⟨x1, hx1⟩ : ∃ x, x = T.getD A 0 := ⟨_, rfl⟩
        obtain ⟨x2, hx2⟩ : ∃ x, x = T.getD B 0 := ⟨_, rfl⟩
        rw [← hx1] at xa
        rw [← hx2] at xb
        have HX1 := hideg hx1
        have HX2 := hideg hx2
        have hAi : (A : Int) < (g.lives.length : Int) := by omega
        have hBi : (B : Int) < (g.lives.length : Int) := by omega
        have HNo : Hid (¬ (x1 ≤ d ∧ ar < x2) → erGo (er0 g (V : Int) t) (rides.take (k + 1)) = (T, L)) := by
          intro h
          rw [HT.out]
          unfold erT erL
          simp only [Int.toNat_natCast]
          rw [← HX1.out, ← HX2.out, if_neg h, if_neg h]
        have HYes : Hid (x1 ≤ d ∧ ar < x2 → erGo (er0 g (V : Int) t) (rides.take (k + 1)) = (T.set B ar, L.set B (E, d, (A : Int), (B : Int), ar, c))) := by
          intro h
          rw [HT.out]
          unfold erT erL
          simp only [Int.toNat_natCast]
          rw [← HX1.out, ← HX2.out, if_pos h, if_pos h]
        have HSn : Hid (¬ (x1 ≤ d ∧ ar < x2) → ∀ N, ErSt w (wa.drewN N) M1 M2 M3 g.lives.length (.slice (some ⟨rb, 0, none⟩) rides.length cap) rides (erGo (er0 g (V : Int) t) (rides.take (k + 1))).1 (erGo (er0 g (V : Int) t) (rides.take (k + 1))).2) := by
          intro h N
          rw [HNo.out h]
          exact HSa.out.below (below_drewN (Below.refl _ _) N)
        clear hx1 hx2 HT HNo
        by_cases q1 : x1 ≤ d
        · have d1 : decide (x1 ≤ d) = true := by simpa using q1
          by_cases q2 : ar < x2
          · have d2 : decide (ar < x2) = true := by simpa using q2
            have HE2 := hideg (HYes.out ⟨q1, q2⟩)
            have hne1 : wr.heap.size ≠ M1 := by have := HS0.out.1; omega
            have hne2 : wr.heap.size ≠ M2 := by have := HS0.out.2; omega
            have HSet := hideg (fun (W : World) (h : ErSt w W M1 M2 M3 g.lives.length (.slice (some ⟨rb, 0, none⟩) rides.length cap) rides T L) => h.set h12 h23 hB ar (E, d, (A : Int), (B : Int), ar, c))
            clear HSn HYes
            go_wp2_with fail
            go_quiet (fail)
            clear xa xb q1 q2 d1 d2 c0 c1 c2 c3 c4 c5
            go_wp2_with fail
            refine Go.wp_region_held (S := fun w3 => w3.cell? ⟨wr.heap.size, 0, none⟩ = some (.int .i64 E) ∧ w3.cell? ⟨wr.heap.size, 1, none⟩ = some (.int .i64 d) ∧ w3.cell? ⟨wr.heap.size, 2, none⟩ = some (.int .i64 (A : Int)) ∧ w3.cell? ⟨wr.heap.size, 3, none⟩ = some (.int .i64 (B : Int)) ∧ w3.cell? ⟨wr.heap.size, 4, none⟩ = some (.int .i64 ar) ∧ w3.cell? ⟨wr.heap.size, 5, none⟩ = some (.int .i64 c)) (by kernel_rfl) ?_
            generalize hw8 : ({ wa.drewN nq with drawn := (wa.drewN nq).drawn + 1 } : World) = w8
            have S8 : ErSt w w8 M1 M2 M3 g.lives.length (.slice (some ⟨rb, 0, none⟩) rides.length cap) rides T L := by rw [← hw8]; exact HSa.out.below (below_drewN (Below.refl _ _) (nq + 1))
            have hS0 : w8.cell? ⟨wr.heap.size, 0, none⟩ = some (.int .i64 E) ∧ w8.cell? ⟨wr.heap.size, 1, none⟩ = some (.int .i64 d) ∧ w8.cell? ⟨wr.heap.size, 2, none⟩ = some (.int .i64 (A : Int)) ∧ w8.cell? ⟨wr.heap.size, 3, none⟩ = some (.int .i64 (B : Int)) ∧ w8.cell? ⟨wr.heap.size, 4, none⟩ = some (.int .i64 ar) ∧ w8.cell? ⟨wr.heap.size, 5, none⟩ = some (.int .i64 c) := by rw [← hw8]; exact ⟨y0, y1, y2, y3, y4, y5⟩
            clear hw8 y0 y1 y2 y3 y4 y5
            refine take_lit (i := 0) (v := ?_) rfl (by kernel_rfl) (by kernel_rfl) (by kernel_rfl) (fun _ _ _ h => h) (Or.inl ⟨by rfl, ?hy0⟩) (by assumption) ?_
            case hy0 => (intro w hSw; (try dsimp only at hSw); go_simp; try with_reducible rfl)
            try simp only [Act.put, List.setIfInBounds_toArray, List.set_cons_zero, List.set_cons_succ]
            refine take_lit (i := 1) (v := ?_) rfl (by kernel_rfl) (by kernel_rfl) (by kernel_rfl) (fun _ _ _ h => h) (Or.inl ⟨by rfl, ?hy1⟩) (by assumption) ?_
            case hy1 => (intro w hSw; (try dsimp only at hSw); go_simp; try with_reducible rfl)
            try simp only [Act.put, List.setIfInBounds_toArray, List.set_cons_zero, List.set_cons_succ]
            refine take_lit (i := 2) (v := ?_) rfl (by kernel_rfl) (by kernel_rfl) (by kernel_rfl) (fun _ _ _ h => h) (Or.inl ⟨by rfl, ?hy2⟩) (by assumption) ?_
            case hy2 => (intro w hSw; (try dsimp only at hSw); go_simp; try with_reducible rfl)
            try simp only [Act.put, List.setIfInBounds_toArray, List.set_cons_zero, List.set_cons_succ]
            refine take_lit (i := 3) (v := ?_) rfl (by kernel_rfl) (by kernel_rfl) (by kernel_rfl) (fun _ _ _ h => h) (Or.inl ⟨by rfl, ?hy3⟩) (by assumption) ?_
            case hy3 => (intro w hSw; (try dsimp only at hSw); go_simp; try with_reducible rfl)
            try simp only [Act.put, List.setIfInBounds_toArray, List.set_cons_zero, List.set_cons_succ]
            refine take_lit (i := 4) (v := ?_) rfl (by kernel_rfl) (by kernel_rfl) (by kernel_rfl) (fun _ _ _ h => h) (Or.inl ⟨by rfl, ?hy4⟩) (by assumption) ?_
            case hy4 => (intro w hSw; (try dsimp only at hSw); go_simp; try with_reducible rfl)
            try simp only [Act.put, List.setIfInBounds_toArray, List.set_cons_zero, List.set_cons_succ]
            refine take_lit (i := 5) (v := ?_) rfl (by kernel_rfl) (by kernel_rfl) (by kernel_rfl) (fun _ _ _ h => h) (Or.inl ⟨by rfl, ?hy5⟩) (by assumption) ?_
            case hy5 => (intro w hSw; (try dsimp only at hSw); go_simp; try with_reducible rfl)
            try simp only [Act.put, List.setIfInBounds_toArray, List.set_cons_zero, List.set_cons_succ]
            refine take_lit (i := 6) (v := ?_) rfl (by kernel_rfl) (by kernel_rfl) (by kernel_rfl) (fun _ _ _ h => h) (Or.inl ⟨by rfl, ?hy6⟩) (by assumption) ?_
            case hy6 => (intro w hSw; (try dsimp only at hSw); go_simp; try with_reducible rfl)
            try simp only [Act.put, List.setIfInBounds_toArray, List.set_cons_zero, List.set_cons_succ]
            refine take_lit (i := 7) (v := ?_) rfl (by kernel_rfl) (by kernel_rfl) (by kernel_rfl) (fun _ _ _ h => h) (Or.inl ⟨by rfl, ?hy7⟩) (by assumption) ?_
            case hy7 => (intro w hSw; (try dsimp only at hSw); go_simp; try with_reducible rfl)
            try simp only [Act.put, List.setIfInBounds_toArray, List.set_cons_zero, List.set_cons_succ]
            refine take_lit (i := 8) (v := ?_) rfl (by kernel_rfl) (by kernel_rfl) (by kernel_rfl) (fun _ _ _ h => h) (Or.inl ⟨by rfl, ?hy8⟩) (by assumption) ?_
            case hy8 => (intro w hSw; (try dsimp only at hSw); go_simp; try with_reducible rfl)
            try simp only [Act.put, List.setIfInBounds_toArray, List.set_cons_zero, List.set_cons_succ]
            refine take_lit (i := 9) (v := ?_) rfl (by kernel_rfl) (by kernel_rfl) (by kernel_rfl) (fun _ _ _ h => h) (Or.inl ⟨by rfl, ?hy9⟩) (by assumption) ?_
            case hy9 => (intro w hSw; (try dsimp only at hSw); go_simp; try with_reducible rfl)
            try simp only [Act.put, List.setIfInBounds_toArray, List.set_cons_zero, List.set_cons_succ]
            refine next_lit (i := 10) rfl (by kernel_rfl) (fun K hK => ?_)
            have fB := World.ownsRow.frozenAt S8.t B
            have xB := Zo.cell S8.t hB
            go_simp
            have hS9 : (w8.setCell ⟨M1, B, none⟩ (.int .i64 ar)).cell? ⟨wr.heap.size, 0, none⟩ = some (.int .i64 E) ∧ (w8.setCell ⟨M1, B, none⟩ (.int .i64 ar)).cell? ⟨wr.heap.size, 1, none⟩ = some (.int .i64 d) ∧ (w8.setCell ⟨M1, B, none⟩ (.int .i64 ar)).cell? ⟨wr.heap.size, 2, none⟩ = some (.int .i64 (A : Int)) ∧ (w8.setCell ⟨M1, B, none⟩ (.int .i64 ar)).cell? ⟨wr.heap.size, 3, none⟩ = some (.int .i64 (B : Int)) ∧ (w8.setCell ⟨M1, B, none⟩ (.int .i64 ar)).cell? ⟨wr.heap.size, 4, none⟩ = some (.int .i64 ar) ∧ (w8.setCell ⟨M1, B, none⟩ (.int .i64 ar)).cell? ⟨wr.heap.size, 5, none⟩ = some (.int .i64 c) := by
              rw [cellFar hne1, cellFar hne1, cellFar hne1, cellFar hne1, cellFar hne1, cellFar hne1]; exact hS0
            refine hK.out _ _ hS9 (fun _ => ?_)
            clear hK K fB xB
            try simp only [Act.put, List.setIfInBounds_toArray, List.set_cons_zero, List.set_cons_succ]
            refine take_lit (i := 11) (v := ?_) rfl (by kernel_rfl) (by kernel_rfl) (by kernel_rfl) (fun _ _ _ h => h) (Or.inl ⟨by rfl, ?hy11⟩) (by assumption) ?_
            case hy11 => (intro w hSw; (try dsimp only at hSw); go_simp; try with_reducible rfl)
            try simp only [Act.put, List.setIfInBounds_toArray, List.set_cons_zero, List.set_cons_succ]
            refine next_lit (i := 12) rfl (by kernel_rfl) (fun K hK => ?_)
            have l9 := ownsRow_setCell_other S8.l (a := ⟨M1, B, none⟩) (by simp [Value.ownBlock]; omega) (.int .i64 ar)
            have l5 := Ro.one l9 hB
            have fL := fun j => World.ownsRow.frozenAt l9 j
            have z0 := l5.c0
            have z1 := l5.c1
            have z2 := l5.c2
            have z3 := l5.c3
            have z4 := l5.c4
            have z5 := l5.c5
            have hS10 := HSet.out _ S8
            clear l5 l9
            unfold setR at hS10
            simp only at hS10
            generalize w8.setCell ⟨M1, B, none⟩ (.int .i64 ar) = w9 at *
            go_simp
            refine hK.out _ _ (by simp only [cellFar hne2]; exact hS9) (fun _ => ?_)
            clear hK K z0 z1 z2 z3 z4 z5 fL hS0 hS9
            refine wpAnyH_done (by kernel_rfl) ?_ _
            generalize (((((w9.setCell ⟨M2, B * 6, none⟩ (.int .i64 E)).setCell ⟨M2, B * 6 + 1, none⟩ (.int .i64 d)).setCell ⟨M2, B * 6 + 2, none⟩ (.int .i64 (A : Int))).setCell ⟨M2, B * 6 + 3, none⟩ (.int .i64 (B : Int))).setCell ⟨M2, B * 6 + 4, none⟩ (.int .i64 ar)).setCell ⟨M2, B * 6 + 5, none⟩ (.int .i64 c) = w10 at *
            have HS10 : Hid (ErSt w w10 M1 M2 M3 g.lives.length (.slice (some ⟨rb, 0, none⟩) rides.length cap) rides (erGo (er0 g (V : Int) t) (rides.take (k + 1))).1 (erGo (er0 g (V : Int) t) (rides.take (k + 1))).2) := by rw [HE2.out]; exact hS10
            clear hS10 S8 HE2
            go_wp2
            go_roundw
            case rel => exact ⟨k + 1, by omega, by go_num, HS10.out⟩
            case measure => simp [intOf]; omega
          · have d2 : decide (ar < x2) = false := by simpa using q2
            have HS2 := hideg (HSn.out (fun h => q2 h.2))
            clear HSn HYes
            go_wp2_with fail
            go_quiet (fail)
            clear xa xb c0 c1 c2 c3 c4 c5 y0 y1 y2 y3 y4 y5 hwas q1 q2 d1 d2
            go_wp2
            go_roundw
            case rel => exact ⟨k + 1, by omega, by go_num, HS2.out _⟩
            case measure => simp [intOf]; omega
        · have d1 : decide (x1 ≤ d) = false := by simpa using q1
          have HS2 := hideg (HSn.out (fun h => q1 h.1))
          clear HSn HYes
          go_wp2_with fail
          go_quiet (fail)
          clear xa xb c0 c1 c2 c3 c4 c5 y0 y1 y2 y3 y4 y5 hwas q1 d1
          go_wp2
          go_roundw
          case rel => exact ⟨k + 1, by omega, by go_num, HS2.out _⟩
          case measure => simp [intOf]; omega
      · have hke : rides.length = k := by omega
        subst hke
        rw [List.take_length, ← HE.out] at S
        have HS := hideg S
        clear S
        go_wp2
        (try simp only [Exit.inBlock, Exit.then]); refine bodyPost_ret (results_two_e rfl _ _ _) rfl ?_
        exact ⟨_, _, rfl, HS.out.t, HS.out.l, HS.out.b⟩

end Go.Proofs.YtkgbgkcbflicmaiDoor

namespace Go.Proofs.YtkgbgkcbflicmaiDoor
open Go.RowKit

/-- the states of who is at v at t and has paid nothing yet -/
def VisOk (g : Gr) (pr : Ri → Int) (v t : Int) (M : Mp) : Prop := (aliveB t g.lives v = true ∧ SpE g (F1 v t) pr M) ∨ (aliveB t g.lives v = false ∧ M = fun _ _ => none)
theorem VisOk.snd {g : Gr} {pr : Ri → Int} {v t : Int} {M : Mp} (h : VisOk g pr v t M) {x y : Int} {z : Vs} (hz : M x y = some z) : Pay g pr v t x y z.1 := by
  rcases h with ⟨ha, h⟩ | ⟨_, rfl⟩
  · exact ⟨ha, h.snd _ _ _ hz⟩
  · cases hz
theorem VisOk.all {g : Gr} {pr : Ri → Int} {v t : Int} {M : Mp} (h : VisOk g pr v t M) {x y p : Int} (hp : Pay g pr v t x y p) : ∃ z, M x y = some z ∧ z.1 ≤ p := by
  rcases h with ⟨_, h⟩ | ⟨ha, _⟩
  · exact h.all _ _ _ hp.2
  · rw [hp.1] at ha; cases ha
theorem Pay.waits {g : Gr} (R : Right g) {pr : Ri → Int} {v0 t0 v t t' p : Int} (h0 : 0 ≤ v0) (h : Pay g pr v0 t0 v t p) (ht : t ≤ t') (ha : aliveB t' g.lives v = true) : Pay g pr v0 t0 v t' p := ⟨h.1, h.2.waits R (F1_ok h0 h.1) ht ha⟩
theorem Pay.place {g : Gr} (R : Right g) {pr : Ri → Int} {v0 t0 v t p : Int} (h0 : 0 ≤ v0) (h : Pay g pr v0 t0 v t p) : 0 ≤ v ∧ v < g.lives.length ∧ aliveB t g.lives v = true ∧ 0 ≤ t ∧ t < g.hor ∧ t0 ≤ t := h.2.place R (F1_ok h0 h.1)
/-- a state's price, or Inf -/
def prF (M : Mp) (v t : Int) : Int := match M v t with | none => 1099511627776 | some z => z.1
/-- the last time of a vertex -/
def lastT (g : Gr) (v : Nat) : Int := (g.lives.getD v (0, 0)).2 - 1
theorem lastT_at {g : Gr} {v : Nat} (hv : v < g.lives.length) : lastT g v = g.lives[v].2 - 1 := by unfold lastT; rw [List.getD_eq_getElem?_getD, List.getElem?_eq_getElem hv]; rfl
theorem last_alive {g : Gr} (R : Right g) {v : Nat} (hv : v < g.lives.length) : aliveB (lastT g v) g.lives (v : Int) = true ∧ (∀ t, aliveB t g.lives (v : Int) = true → t ≤ lastT g v) ∧ 0 ≤ lastT g v ∧ lastT g v < 100 := by
  have h := R.life _ (List.getElem_mem hv)
  have hh := R.hor
  rw [lastT_at hv]
  refine ⟨?_, fun t ht => ?_, by omega, by omega⟩
  · rw [aliveB_at _ _ _ hv]; exact (hasB_iff _ _ _).2 (by omega)
  · rw [aliveB_at _ _ _ hv] at ht; have := (hasB_iff _ _ _).1 ht; omega
/-- all but the first k numbers are 0 -/
def fillL (f : Nat → Int) (n k : Nat) : List Int := (List.range n).map fun x => if x < k then f x else 0
theorem fill_len (f : Nat → Int) (n k : Nat) : (fillL f n k).length = n := by simp [fillL]
theorem fill_get (f : Nat → Int) (n k x : Nat) (hx : x < n) : (fillL f n k).getD x 0 = if x < k then f x else 0 := by simp [fillL, List.getD_eq_getElem?_getD, hx]
theorem fill_zero (f : Nat → Int) (n : Nat) : fillL f n 0 = List.replicate n 0 := by
  refine list_ext_gd (by simp [fillL]) fun x hx => ?_
  rw [fill_len] at hx
  rw [fill_get _ _ _ _ hx]
  simp [List.getD_eq_getElem?_getD, hx]
theorem fill_set (f : Nat → Int) (n k : Nat) (hk : k < n) : (fillL f n k).set k (f k) = fillL f n (k + 1) := by
  refine list_ext_gd (by simp [fillL]) fun x hx => ?_
  rw [List.length_set, fill_len] at hx
  rw [getD_setI _ _ _ _ (by rw [fill_len]; exact hk), fill_get _ _ _ _ hx, fill_get _ _ _ _ hx]
  by_cases e : x = k
  · subst e; simp
  · rw [if_neg e]
    by_cases h : x < k
    · rw [if_pos h, if_pos (by omega)]
    · rw [if_neg h, if_neg (by omega)]
theorem least_of {g : Gr} (R : Right g) {pr : Ri → Int} {v t : Int} (h0 : 0 ≤ v) {M : Mp} (h : VisOk g pr v t M) : LeastIs g pr v t (fillL (fun x => prF M (x : Int) (lastT g x)) g.lives.length g.lives.length) := by
  refine ⟨fill_len _ _ _, fun x hx => ?_, fun x hx t' p hp => ?_⟩
  · rw [fill_get _ _ _ _ hx, if_pos hx]
    unfold prF
    cases hz : M (x : Int) (lastT g x) with
    | none => exact .inl rfl
    | some z => exact .inr ⟨_, h.snd hz⟩
  · rw [fill_get _ _ _ _ hx, if_pos hx]
    obtain ⟨k1, k2, _⟩ := last_alive R hx
    obtain ⟨z, hz, hzp⟩ := h.all (hp.waits R h0 (k2 _ (hp.place R h0).2.2.1) k1)
    unfold prF; rw [hz]; exact hzp

set_option maxRecDepth 100000 in
theorem atLast_any (g : Gr) (la ea : Option Addr) (lc ec v : Nat) (w : World) (hG : GAt w la ea g) (hR : Right g) (hv : v < g.lives.length) :
    Calls Tryd.prog 34 #[.agg #[.int .i64 g.hor, .slice la g.lives.length lc, .slice ea g.edges.length ec], .int .i64 v] w fun r w' => r = .returned (.agg #[.int .i64 (v : Int), .int .i64 (lastT g v)]) ∧ Below w.heap.size w w' := by
  obtain ⟨_, _, h3, h4⟩ := last_alive hR hv
  rw [lastT_at hv] at h3 h4 ⊢
  obtain ⟨lb, lof, rfl, hlb, l0, l1⟩ : ∃ b off, la = some ⟨b, off, none⟩ ∧ b < w.heap.size ∧ (w.cell? ⟨b, off + v * 2, none⟩ = some (.int .i64 g.lives[v].1) ∧ w.cell? ⟨b, off + v * 2 + 1, none⟩ = some (.int .i64 g.lives[v].2)) := by
    rcases hG.lv with h0 | ⟨b, off, rfl, hbr, hc⟩
    · rw [h0] at hv; simp at hv
    exact ⟨b, off, rfl, hbr, IvAt.get hv hc⟩
  have hvi : (v : Int) < (g.lives.length : Int) := by omega
  have hww : IntKind.i64.wrap (g.lives[v].2 - 1) = g.lives[v].2 - 1 := wrap_nj _ (by omega) (by omega)
  have m1 := fun W (h : Below w.heap.size w W) => (h.cell (p := ⟨lb, lof + v * 2 + 1, none⟩) hlb).trans l1
  have m2 := m1 _ (ptg (gal w (.cells #[.int .i64 g.hor, .slice (some ⟨lb, lof, none⟩) g.lives.length lc, .slice ea g.edges.length ec] 25)) (gal _ (.cells #[.int .i64 0, .int .i64 0] 92)))
  clear hG l0 l1 hR m1
  generalize g.lives[v] = lf at *
  go_enter Tryd.func34, Tryd.ntmps34
  go_wp2
  refine bodyPost_ret (v := .agg #[.int .i64 (v : Int), .int .i64 (lf.2 - 1)]) (by simp [results, Tryd.results34, go_sem]) rfl ⟨rfl, ?_⟩
  exact ptg (gal w _) (gal _ _)

set_option maxRecDepth 100000 in
set_option maxHeartbeats 1000000 in
theorem visitsFrom_any (g : Gr) (la ea : Option Addr) (lc ec : Nat) (pr : Ri → Int) (v t : Int) (fv : FuncId) (eg : ∀ args w, (callFunc fv args).run Tryd.prog w = .ok (.enter fv args) w) (w : World) (hG : GAt w la ea g) (hpl : placeE g v t = 0) (hpr : PrOk g pr)
    (hfv : ∀ r W, Calls Tryd.prog fv #[rideV r] W fun res w' => res = .returned (.int .i64 (pr r)) ∧ Below W.heap.size W w') :
    Calls Tryd.prog 33 #[.agg #[.int .i64 g.hor, .slice la g.lives.length lc, .slice ea g.edges.length ec], .int .i64 v, .int .i64 t, .func (.func fv) #[] #[]] w fun r w' => ∃ b n M, r = .returned (.map (some b)) ∧ MapAt w' b n M ∧ VisOk g pr v t M ∧ Below w.heap.size w w' := by
  obtain ⟨hg0, ⟨hv0, hv1⟩, ht0, ht1⟩ := placeE_zero hpl
  have hR := gChk_right hg0
  have hhor := hR.hor
  have hlv := hR.lvs
  obtain ⟨V, rfl⟩ : ∃ V : Nat, v = (V : Int) := ⟨v.toNat, by omega⟩
  have hVg : V < g.lives.length := by omega
  obtain ⟨w1, hw1⟩ : ∃ x, x = w.alloc (.cells #[.int .i64 g.hor, .slice la g.lives.length lc, .slice ea g.edges.length ec] 25) := ⟨_, rfl⟩
  have B0 : GBx w w1 w.heap.size g la ea lc ec := by rw [hw1]; exact gbx_start w g la ea lc ec 25
  obtain ⟨w2, hw2⟩ : ∃ x, x = w1.alloc (.map #[] 0) := ⟨_, rfl⟩
  have hM2 : MapAt w2 w1.heap.size 0 (fun _ _ => none) := by rw [hw2]; exact mapAt_made w1
  have b2 : Below w1.heap.size w1 w2 := by rw [hw2]; exact gal w1 _
  have B2 := B0.below b2
  have hG2 := hG.below B2.bel
  have s1 : w.heap.size < w1.heap.size := by rw [hw1]; simp
  obtain ⟨lb, lof, rfl, hlb, l0, l1⟩ : ∃ b off, la = some ⟨b, off, none⟩ ∧ b < w2.heap.size ∧ (w2.cell? ⟨b, off + V * 2, none⟩ = some (.int .i64 g.lives[V].1) ∧ w2.cell? ⟨b, off + V * 2 + 1, none⟩ = some (.int .i64 g.lives[V].2)) := by
    rcases hG2.lv with h0 | ⟨b, off, rfl, hbr, hc⟩
    · rw [h0] at hVg; simp at hVg
    exact ⟨b, off, rfl, hbr, IvAt.get hVg hc⟩
  have hVi : (V : Int) < (g.lives.length : Int) := by omega
  have hal := fun W => jalive_any g.lives[V].1 g.lives[V].2 t W
  rw [← aliveB_at t g.lives V hVg] at hal
  have g0 := B2.c0
  have g1 := B2.c1
  have g2 := B2.c2
  have hmm := @run_makeMap Tryd.prog
  have hw1s := hw1.symm
  have hw2s := hw2.symm
  have HB := hideg (fun W (h : Below w2.heap.size w2 W) => (B2.below h).bel)
  have HM := hideg (fun W (h : Below w2.heap.size w2 W) => hM2.below h)
  have HB2 := hideg B2
  have HG2 := hideg hG2
  clear hG hw1 hw2 B0 B2 hG2 hM2 hg0
  cases ha : aliveB t g.lives (V : Int) with
  | false =>
    rw [ha] at hal
    have HV : Hid (VisOk g pr (V : Int) t (fun _ _ => none)) := .inr ⟨ha, rfl⟩
    clear ha hR hpl
    generalize g.lives[V] = lf at *
    go_enter Tryd.func33, Tryd.ntmps33
    go_wp2_with fail
    refine (hal _).mono ?_
    rintro r w3 ⟨rfl, hb3⟩
    have HM3 := hideg (HM.out w3 hb3)
    have HB3 := hideg (HB.out w3 hb3)
    clear hal hb3 g0 g1 g2 l0 l1
    go_wp2
    go_ret
    exact ⟨_, _, _, rfl, HM3.out, HV.out, HB3.out⟩
  | true =>
    rw [ha] at hal
    have hF := F1_ok (g := g) (v0 := (V : Int)) (t0 := t) hv0 ha
    have hPb : ∀ x y p, Pd g (F1 (V : Int) t) pr x y p → -1000000 ≤ p ∧ p ≤ 1000000 := fun x y p h => by
      have h1 := h.range hR hpr hv0 ha
      have h2 := h.place hR hF
      omega
    have HS := hideg (fun b n M0 W (hGW : GAt W (some ⟨lb, lof, none⟩) ea g) (hMW : MapAt W b n M0) (hn : n ≤ 200) (hM0 : ∀ x y, (M0 x y).map (·.1) = F1 (V : Int) t x y) => spread_any g (some ⟨lb, lof, none⟩) ea lc ec (F1 (V : Int) t) pr t fv eg b n M0 W hGW hR hF hMW hn ⟨ht0, ht1⟩ hM0 hpr hPb hfv)
    have HV : Hid (∀ M, SpE g (F1 (V : Int) t) pr M → VisOk g pr (V : Int) t M) := fun M h => .inl ⟨ha, h⟩
    clear ha hR hpl hF hPb hpr hfv eg
    generalize g.lives[V] = lf at *
    go_enter Tryd.func33, Tryd.ntmps33
    go_wp2_with fail
    refine (hal _).mono ?_
    rintro r w3 ⟨rfl, hb3⟩
    have M3 := HM.out w3 hb3
    have G3 := HG2.out.below hb3
    have B3 := HB2.out.below hb3
    obtain ⟨w4, hup, hM4, hg4⟩ := M3.store (by unfold maxLen; omega) (v := (V : Int)) (t := t) (wi_small (by omega) (by omega)) (wi_small (by omega) (by omega)) (0, 0, 0, 0, 0, 0, 0)
    simp only [keyV, encV_mk] at hup
    have G4 := M3.gat hg4 G3
    obtain ⟨k0, k1, k2⟩ := GBx.gby M3 hg4 B3
    have hSp := HS.out w1.heap.size (0 + 1) _ w4 G4 hM4 (by omega) (fun x y => by
      unfold mset F1
      split <;> rfl)
    have HB4 : Hid (∀ W, w4.grownBy W (some w1.heap.size) → Below w.heap.size w W) := fun W h => (B3.bel.grown hg4 B3.bel.size (fun k hk => by cases hk; omega)).grown h (Nat.le_trans B3.bel.size hg4.size) (fun k hk => by cases hk; omega)
    clear hal hb3 g0 g1 g2 l0 l1 M3 G3 B3 hM4 hg4 G4 HS
    go_wp2_with fail
    refine hSp.mono ?_
    rintro r w5 ⟨⟨vv, rfl⟩, ⟨n5, M5, hM5, hE5⟩, hg5⟩
    have HM5 := hideg hM5
    have HE5 := hideg (HV.out _ hE5)
    have HB5 := hideg (HB4.out w5 hg5)
    clear hSp hM5 hE5 hg5 k0 k1 k2 hup HB4
    go_wp2
    go_ret
    exact ⟨_, _, _, rfl, HM5.out, HE5.out, HB5.out⟩

end Go.Proofs.YtkgbgkcbflicmaiDoor

namespace Go.Proofs.YtkgbgkcbflicmaiDoor
open Go.RowKit

/-- what Costs and Hops tell -/
def LeastE (g : Gr) (pr : Ri → Int) (v t : Int) (L : List Int) : Prop := (placeE g v t ≠ 0 ∧ L = []) ∨ (placeE g v t = 0 ∧ LeastIs g pr v t L)
def prCost : Ri → Int := fun r => r.2.2.2.2.2
def prOne : Ri → Int := fun _ => 1
def prZero : Ri → Int := fun _ => 0
theorem prCost_ok {g : Gr} (R : Right g) : PrOk g prCost := fun _ hr => (mem_rides R hr).c0
theorem prOne_ok (g : Gr) : PrOk g prOne := fun _ _ => by unfold prOne; omega
theorem prZero_ok (g : Gr) : PrOk g prZero := fun _ _ => by unfold prZero; omega

set_option maxRecDepth 100000 in
set_option maxHeartbeats 1000000 in
theorem leastPrices_any (g : Gr) (la ea : Option Addr) (lc ec : Nat) (pr : Ri → Int) (v t : Int) (fv : FuncId) (eg : ∀ args w, (callFunc fv args).run Tryd.prog w = .ok (.enter fv args) w) (w : World) (hG : GAt w la ea g) (hpr : Right g → PrOk g pr)
    (hfv : ∀ r W, Calls Tryd.prog fv #[rideV r] W fun res w' => res = .returned (.int .i64 (pr r)) ∧ Below W.heap.size W w') :
    Calls Tryd.prog 19 #[.agg #[.int .i64 g.hor, .slice la g.lives.length lc, .slice ea g.edges.length ec], .int .i64 v, .int .i64 t, .func (.func fv) #[] #[]] w fun r w' => ∃ u L, r = .returned (.tuple #[u, .int .i64 (placeE g v t)]) ∧ LeastE g pr v t L ∧ w'.ownsRow w.heap.size 3 1 u L.length (L.map (Value.int .i64)) ∧ Below w.heap.size w w' := by
  obtain ⟨i0, hi, hz0, hz1, hz2⟩ := info_parts Tryd.infoInt
  have B0 := gbx_start w g la ea lc ec 25
  have h1 := jcheck_any g la ea lc ec v t _ (hG.below B0.bel)
  by_cases e1 : placeE g v t = 0
  case neg =>
    have HP : Hid (LeastE g pr v t []) := .inl ⟨e1, rfl⟩
    have d1 : (placeE g v t != 0) = true := by simpa using e1
    generalize placeE g v t = n at *
    clear e1 hG hpr hfv eg
    go_enter Tryd.func19, Tryd.ntmps19
    go_wp2_with fail
    refine h1.mono ?_
    rintro r w1 ⟨rfl, hb1⟩
    have hbF := (B0.below hb1).bel
    clear h1 hb1 B0
    go_wp2
    (try simp only [Exit.inBlock, Exit.then]); refine bodyPost_ret (results_two_e rfl _ _ _) rfl ?_
    exact ⟨_, _, rfl, HP.out, World.ownsRow_nil _ _ _ _, hbF⟩
  obtain ⟨hg0, ⟨hv0, hv1⟩, ht0, ht1⟩ := placeE_zero e1
  have hR := gChk_right hg0
  have hlv := hR.lvs
  have HV := hideg (fun W (hW : Below w.heap.size w W) => visitsFrom_any g la ea lc ec pr v t fv eg W (hG.below hW) e1 (hpr hR) hfv)
  have HL := hideg (fun W (hW : Below w.heap.size w W) (x : Nat) (hx : x < g.lives.length) => atLast_any g la ea lc ec x W (hG.below hW) hR hx)
  have HE : Hid (∀ M, VisOk g pr v t M → LeastE g pr v t (fillL (fun x => prF M (x : Int) (lastT g x)) g.lives.length g.lives.length)) := fun M h => .inr ⟨e1, least_of hR hv0 h⟩
  have HLt : Hid (∀ x, x < g.lives.length → 0 ≤ lastT g x ∧ lastT g x < 100) := fun x hx => (last_alive hR hx).2.2
  rw [e1] at h1 ⊢
  clear hG e1 hg0 hR hpr hfv eg hv0 hv1 ht0 ht1
  go_enter Tryd.func19, Tryd.ntmps19
  go_wp2_with fail
  refine h1.mono ?_
  rintro r w1 ⟨rfl, hb1⟩
  have B1 := B0.below hb1
  have h2 := HV.out w1 B1.bel
  have g0 := B1.c0
  have g1 := B1.c1
  have g2 := B1.c2
  clear h1 hb1 B0 HV
  go_wp2_with fail
  refine h2.mono ?_
  rintro r w2 ⟨b, n, M, rfl, hM2, hV2, hb2⟩
  have B2 := B1.below hb2
  have HE2 := hideg (HE.out M hV2)
  clear h2 hb2 B1 g0 g1 g2 HE hV2
  have g1 := B2.c1
  go_wp2_with (at_make; refine wpList_make_full _ rfl _ _ 32 rfl w.heap.size 3 i0 (.int .i64 0) 1 Tryd.underlying32 hi hz0 hz1 .i64 .i64 _ _ g.lives.length rfl rfl rfl rfl (by rw [hz2]; omega) (by unfold maxLen; omega) B2.bel.size ?_; intro w3 hown3 hgrow3)
  have e3 : (madeCells (Value.int .i64 0).cells (g.lives.length * 1)).toList = (fillL (fun x => prF M (x : Int) (lastT g x)) g.lives.length 0).map (Value.int .i64) := by
    rw [Nat.mul_one, fill_zero]
    show (madeCells #[Value.int .i64 0] g.lives.length).toList = _
    rw [toList_madeCells_one, List.map_replicate]
  rw [e3] at hown3
  have hb3 : Below w2.heap.size w2 w3 := (Below.refl _ _).grown hgrow3 (Nat.le_refl _) (fun k hk => by cases hk)
  have B3 := B2.below hb3
  have M3 := hM2.below hb3
  have hs3 := (World.ownsRow.lt hown3 _ rfl).2
  have hlt2 := B2.lt
  have hMl := hM2.lt
  have HB3 := hideg B3
  have HM3 := hideg M3
  have HbR : Hid (w.heap.size ≤ w2.heap.size) := B2.bel.size
  have hbne : b ≠ w2.heap.size := by omega
  have hwne : w.heap.size ≠ w2.heap.size := by omega
  obtain ⟨m, hm⟩ : ∃ m, m = w2.heap.size := ⟨_, rfl⟩
  rw [← hm] at hown3 hs3 hbne hwne ⊢
  clear hgrow3 e3 hb3 B2 hM2 g1 hm hlt2 hMl B3 M3
  generalize hf : (fun x : Nat => prF M (x : Int) (lastT g x)) = f at hown3 HE2
  have HF : Hid (∀ x : Nat, f x = prF M (x : Int) (lastT g x)) := fun x => by rw [← hf]
  clear hf
  go_wp2_with fail
  go_loopw [34] (fun i wr => ∃ k : Nat, k ≤ g.lives.length ∧ i = .int .i64 k ∧ Zo wr w.heap.size m g.lives.length g.lives.length (fillL f g.lives.length k) ∧ w3.grownBy wr (some m)) (fun i _ => g.lives.length - (intOf i).toNat)
  case atStart => exact ⟨0, Nat.zero_le _, rfl, hown3, gby_refl _ _⟩
  case round =>
    clear hown3
    obtain ⟨k, hk, rfl, hZ, hg⟩ := hrel
    by_cases hkl : k < g.lives.length
    · have hki : (k : Int) < (g.lives.length : Int) := by omega
      have hkw : IntKind.i64.wrap ((k : Int) + 1) = (k : Int) + 1 := wrap_nj _ (by omega) (by omega)
      have fz := World.ownsRow.frozenAt hZ k
      have cv := Zo.cell hZ hkl
      obtain ⟨w4, hw4⟩ : ∃ x, x = wr.setCell ⟨m, k, none⟩ (.int .i64 1099511627776) := ⟨_, rfl⟩
      have hZ4 : Zo w4 w.heap.size m g.lives.length g.lives.length ((fillL f g.lives.length k).set k 1099511627776) := by rw [hw4]; exact Zo.set hZ k _
      have hg4 : w3.grownBy w4 (some m) := by rw [hw4]; exact gby_trans hg (gby_setOne _ _ _ _)
      have k0 : w4.cell? ⟨w.heap.size, 0, none⟩ = some (.int .i64 g.hor) := hg4.cell HB3.out.c0 (by simp only; intro h; cases h; exact hwne rfl)
      have k1 : w4.cell? ⟨w.heap.size, 1, none⟩ = some (.slice la g.lives.length lc) := hg4.cell HB3.out.c1 (by simp only; intro h; cases h; exact hwne rfl)
      have k2 : w4.cell? ⟨w.heap.size, 2, none⟩ = some (.slice ea g.edges.length ec) := hg4.cell HB3.out.c2 (by simp only; intro h; cases h; exact hwne rfl)
      have hb4 : Below w.heap.size w w4 := HB3.out.bel.grown hg4 HB3.out.bel.size (fun j hj => by cases hj; have := (World.ownsRow.lt hZ _ rfl).1; omega)
      have hL4 := HL.out w4 hb4 k hkl
      have M4 : MapAt w4 b n M := HM3.out.kept hg4 (fun h => hbne (by cases h; rfl))
      have hlt := HLt.out k hkl
      have HFk := hideg (HF.out k)
      have HSt := hideg (fill_set f g.lives.length k hkl)
      have hw4s := hw4.symm
      clear hw4 hZ hg hb4
      generalize lastT g k = T at *
      go_wp2_with fail
      refine hL4.mono ?_
      rintro r w5 ⟨rfl, hb5⟩
      have M5 := M4.below hb5
      have hZ5 := ownsRow_below hZ4 hb5
      have hg5 := gby_trans hg4 (gby_of_below hb5 (some m))
      have q1 := M5.look (v := (k : Int)) (t := T) (wi_small (by omega) (by omega)) (wi_small (by omega) (by omega))
      clear hL4 hb5 M4 M5 hZ4 hg4 k0 k1 k2 hw4s fz cv
      unfold prF at HFk
      cases hz : M (k : Int) T with
      | none =>
        rw [hz] at q1 HFk
        simp only [keyV, Option.getD_none, encV_mk, Option.isSome_none] at q1
        simp only at HFk
        have HZ6 : Hid (∀ o, Zo (w5.alloc o) w.heap.size m g.lives.length g.lives.length (fillL f g.lives.length (k + 1)) ∧ w3.grownBy (w5.alloc o) (some m)) := fun o => by
          rw [← HSt.out, HFk.out]; exact ⟨ownsRow_below hZ5 (gal w5 o), gby_trans hg5 (gby_of_below (gal w5 o) _)⟩
        clear hZ5 hg5 hz HFk HSt
        go_wp2
        go_roundw
        case rel => exact ⟨k + 1, by omega, by go_num, (HZ6.out _).1, (HZ6.out _).2⟩
        case measure => simp [intOf]; omega
      | some z =>
        obtain ⟨q, E2, d2, a2, e2, ar2, c2⟩ := z
        rw [hz] at q1 HFk
        simp only [keyV, Option.getD_some, encV_mk, Option.isSome_some] at q1
        simp only at HFk
        obtain ⟨w6, hw6⟩ : ∃ x, x = w5.alloc (.cells #[.int .i64 q, .int .i64 E2, .int .i64 d2, .int .i64 a2, .int .i64 e2, .int .i64 ar2, .int .i64 c2] 89) := ⟨_, rfl⟩
        have b6 : Below w5.heap.size w5 w6 := by rw [hw6]; exact gal w5 _
        have v0 : w6.cell? ⟨w5.heap.size, 0, none⟩ = some (.int .i64 q) := by rw [hw6]; exact new_cell rfl rfl
        have hZ6 := ownsRow_below hZ5 b6
        have fz := World.ownsRow.frozenAt hZ6 k
        have cv := Zo.cell hZ6 hkl
        have HZ7 : Hid (Zo (w6.setCell ⟨m, k, none⟩ (.int .i64 q)) w.heap.size m g.lives.length g.lives.length (fillL f g.lives.length (k + 1)) ∧ w3.grownBy (w6.setCell ⟨m, k, none⟩ (.int .i64 q)) (some m)) := by
          refine ⟨?_, gby_trans (gby_trans hg5 (gby_of_below b6 _)) (gby_setOne _ _ _ _)⟩
          have h7 := Zo.set hZ6 k q
          have e7 := HSt.out
          rw [HFk.out] at e7
          rw [List.set_set, e7] at h7
          exact h7
        have hw6s := hw6.symm
        clear hZ5 hg5 hz HFk HSt hw6 hZ6 b6
        go_wp2
        go_roundw
        case rel => exact ⟨k + 1, by omega, by go_num, HZ7.out.1, HZ7.out.2⟩
        case measure => simp [intOf]; omega
    · have hke : k = g.lives.length := by omega
      subst hke
      have HZ := hideg hZ
      have hm0 := (World.ownsRow.lt hZ _ rfl).1
      have HbF : Hid (Below w.heap.size w wr) := HB3.out.bel.grown hg HB3.out.bel.size (fun j hj => by cases hj; omega)
      have HLn := hideg (fill_len f g.lives.length g.lives.length)
      clear hZ hg
      go_wp2
      (try simp only [Exit.inBlock, Exit.then]); refine bodyPost_ret (results_two_e rfl _ _ _) rfl ?_
      refine ⟨_, rfl, fillL f g.lives.length g.lives.length, HE2.out, ?_, HbF.out⟩
      rw [HLn.out]; exact HZ.out

set_option maxRecDepth 100000 in
theorem cCosts_any (g : Gr) (la ea : Option Addr) (lc ec : Nat) (v t : Int) (w : World) (hG : GAt w la ea g) :
    Calls Tryd.prog 10 #[.agg #[.int .i64 g.hor, .slice la g.lives.length lc, .slice ea g.edges.length ec], .int .i64 v, .int .i64 t] w fun r w' => ∃ u L, r = .returned (.tuple #[u, .int .i64 (placeE g v t)]) ∧ LeastE g prCost v t L ∧ w'.ownsRow w.heap.size 3 1 u L.length (L.map (Value.int .i64)) ∧ Below w.heap.size w w' := by
  have B0 := gbx_start w g la ea lc ec 25
  have h1 := leastPrices_any g la ea lc ec prCost v t 20 (fun args w => Tryd.call20 args w) _ (hG.below B0.bel) (fun R => prCost_ok R) costOf_any
  have HB := hideg B0
  clear hG B0
  go_enter Tryd.func10, Tryd.ntmps10
  go_wp2_with fail
  refine h1.mono ?_
  rintro r w1 ⟨u, L, rfl, hL, ho, hb⟩
  have HL := hideg hL
  have HO := hideg (owns_base2 ho HB.out.bel.size)
  have HB1 := hideg (HB.out.below hb).bel
  clear h1 hL ho hb
  go_wp2
  (try simp only [Exit.inBlock, Exit.then]); refine bodyPost_ret (results_two_e rfl _ _ _) rfl ?_
  exact ⟨_, _, rfl, HL.out, HO.out, HB1.out⟩
end Go.Proofs.YtkgbgkcbflicmaiDoor

namespace Go.Proofs.YtkgbgkcbflicmaiDoor

/-- who sets out from v at a time has that time, below nought -/
def FF (g : Gr) (v : Int) : Int → Int → Option Int := fun x t => if x = v ∧ aliveB t g.lives v = true then some (-t) else none
theorem FF_ok {g : Gr} (R : Right g) {v : Int} (h0 : 0 ≤ v) : FOk g (FF g v) 0 := fun x t p h => by
  unfold FF at h
  split at h
  · rename_i e; obtain ⟨rfl, e⟩ := e; exact ⟨h0, e, (alive_hor R e).2.1⟩
  · cases h
theorem pd_rch {g : Gr} (R : Right g) {v x t p : Int} (h : Pd g (FF g v) (fun _ => 0) x t p) : Rch g v (-p) x t := by
  induction h with
  | @base x t p h =>
    unfold FF at h
    split at h
    · rename_i e; obtain ⟨rfl, e⟩ := e; cases h; rw [Int.neg_neg]; exact .base e
    · cases h
  | wait _ ha ih => exact .wait ih ha
  | ride hr _ ih => rw [Int.add_zero]; exact (mem_rides R hr).go ih
theorem rch_pd {g : Gr} (R : Right g) {v s x t : Int} (h0 : 0 ≤ v) (h : Rch g v s x t) : Pd g (FF g v) (fun _ => 0) x t (-s) := by
  induction h with
  | base ha => exact .base (by unfold FF; rw [if_pos ⟨rfl, ha⟩])
  | wait _ ha ih => exact .wait ih ha
  | @ride t q i hi h hq ih =>
    have := Pd.ride (pr := fun _ => 0) (ride_mem R hi (h.place R h0).2.2.1 hq) ih
    rw [Int.add_zero] at this
    exact this
theorem ff_range {g : Gr} (R : Right g) {v x t p : Int} (h : Pd g (FF g v) (fun _ => 0) x t p) : -100 ≤ p ∧ p ≤ 0 ∧ 0 ≤ t + p := by
  have h1 := pd_rch R h
  have h2 := alive_hor R h1.src
  have h3 := R.hor
  have h4 := h1.le R
  omega
/-- what Fastest tells of vertices: the least time, and the first at which one sets out for it -/
def FastIs (g : Gr) (v q d a e : Int) : Prop := (e = 4 ∧ d = 0 ∧ a = 0 ∧ ∀ s t, ¬ Rch g v s q t) ∨ (e = 0 ∧ Rch g v a q (a + d) ∧ (∀ s t, Rch g v s q t → d ≤ t - s) ∧ ∀ s, Rch g v s q (s + d) → a ≤ s)
theorem fast_unique {g : Gr} {v q d a e d' a' e' : Int} (h : FastIs g v q d a e) (h' : FastIs g v q d' a' e') : d = d' ∧ a = a' ∧ e = e' := by
  rcases h with ⟨h1, h2, h3, h4⟩ | ⟨h1, h2, h3, h4⟩ <;> rcases h' with ⟨k1, k2, k3, k4⟩ | ⟨k1, k2, k3, k4⟩
  · omega
  · exact absurd k2 (h4 _ _)
  · exact absurd h2 (k4 _ _)
  · have e1 := h3 _ _ k2
    have e2 := k3 _ _ h2
    have e3 : d = d' := by omega
    subst e3
    have e4 := h4 _ k2
    have e5 := k4 _ h2
    omega
/-- the best of the first k times -/
def fsF (M : Mp) (q : Int) : Nat → Int × Int
  | 0 => (1099511627776, 0)
  | k + 1 => match M q (k : Int) with
    | none => fsF M q k
    | some z => if (k : Int) + z.1 < (fsF M q k).1 then ((k : Int) + z.1, -z.1) else fsF M q k
theorem fsF_spec {M : Mp} {q : Int} (hz : ∀ t z, M q t = some z → t + z.1 < 1099511627776) : ∀ k : Nat, ((fsF M q k).1 = 1099511627776 ∧ ∀ t : Nat, t < k → M q (t : Int) = none) ∨ ∃ (t : Nat) (z : Vs), t < k ∧ M q (t : Int) = some z ∧ fsF M q k = ((t : Int) + z.1, -z.1) ∧ ∀ (t' : Nat) (z' : Vs), t' < k → M q (t' : Int) = some z' → (t : Int) + z.1 ≤ (t' : Int) + z'.1 ∧ ((t : Int) + z.1 = (t' : Int) + z'.1 → t ≤ t')
  | 0 => .inl ⟨rfl, fun t h => by omega⟩
  | k + 1 => by
    have ih := fsF_spec hz k
    rw [fsF]
    cases hk : M q (k : Int) with
    | none =>
      simp only
      rcases ih with ⟨h1, h2⟩ | ⟨t, z, h1, h2, h3, h4⟩
      · refine .inl ⟨h1, fun t ht => ?_⟩
        by_cases e : t = k
        · subst e; exact hk
        · exact h2 t (by omega)
      · refine .inr ⟨t, z, by omega, h2, h3, fun t' z' ht' hz' => ?_⟩
        by_cases e : t' = k
        · subst e; rw [hk] at hz'; cases hz'
        · exact h4 t' z' (by omega) hz'
    | some y =>
      simp only
      have hy := hz _ _ hk
      rcases ih with ⟨h1, h2⟩ | ⟨t, z, h1, h2, h3, h4⟩
      · rw [if_pos (by omega)]
        refine .inr ⟨k, y, by omega, hk, rfl, fun t' z' ht' hz' => ?_⟩
        by_cases e : t' = k
        · subst e; rw [hk] at hz'; cases hz'; exact ⟨Int.le_refl _, fun _ => Nat.le_refl _⟩
        · rw [h2 t' (by omega)] at hz'; cases hz'
      · rw [h3]
        simp only
        split
        · rename_i hlt
          refine .inr ⟨k, y, by omega, hk, rfl, fun t' z' ht' hz' => ?_⟩
          by_cases e : t' = k
          · subst e; rw [hk] at hz'; cases hz'; exact ⟨Int.le_refl _, fun _ => Nat.le_refl _⟩
          · have := (h4 t' z' (by omega) hz').1
            exact ⟨by omega, fun _ => by omega⟩
        · rename_i hlt
          refine .inr ⟨t, z, by omega, h2, rfl, fun t' z' ht' hz' => ?_⟩
          by_cases e : t' = k
          · subst e; rw [hk] at hz'; cases hz'; exact ⟨by omega, fun _ => by omega⟩
          · exact h4 t' z' (by omega) hz'
theorem fast_of {g : Gr} (R : Right g) {v q : Int} (h0 : 0 ≤ v) {M : Mp} (S : SpE g (FF g v) (fun _ => 0) M) :
    ((fsF M q g.hor.toNat).1 = 1099511627776 → FastIs g v q 0 0 4) ∧ ((fsF M q g.hor.toNat).1 ≠ 1099511627776 → FastIs g v q (fsF M q g.hor.toNat).1 (fsF M q g.hor.toNat).2 0) := by
  have hh := R.hor
  have hz : ∀ t z, M q t = some z → t + z.1 < 1099511627776 := fun t z h => by
    have h1 := S.snd _ _ _ h
    have h2 := ff_range R h1
    have h3 := h1.place R (FF_ok R h0)
    omega
  have hin : ∀ s t, Rch g v s q t → ∃ z, M q ((t.toNat : Nat) : Int) = some z ∧ z.1 ≤ -s ∧ t.toNat < g.hor.toNat ∧ ((t.toNat : Nat) : Int) = t := fun s t h => by
    obtain ⟨z, hz, hzs⟩ := S.all _ _ _ (rch_pd R h0 h)
    have hp := h.place R h0
    have e : ((t.toNat : Nat) : Int) = t := by omega
    exact ⟨z, by rw [e]; exact hz, hzs, by omega, e⟩
  rcases fsF_spec hz g.hor.toNat with ⟨h1, h2⟩ | ⟨t, z, h1, h2, h3, h4⟩
  · refine ⟨fun _ => .inl ⟨rfl, rfl, rfl, fun s t h => ?_⟩, fun h => absurd h1 h⟩
    obtain ⟨z, k1, _, k3, _⟩ := hin s t h
    rw [h2 _ k3] at k1; cases k1
  · have hzt := hz _ _ h2
    rw [h3]
    refine ⟨fun h => by simp only at h; omega, fun _ => .inr ⟨rfl, ?_, fun s t' h => ?_, fun s h => ?_⟩⟩
    · have := pd_rch R (S.snd _ _ _ h2)
      simp only
      rw [show -z.1 + ((t : Int) + z.1) = (t : Int) by omega]
      exact this
    · obtain ⟨z', k1, k2, k3, k4⟩ := hin s t' h
      have := (h4 _ z' k3 k1).1
      simp only; omega
    · simp only at h ⊢
      obtain ⟨z', k1, k2, k3, k4⟩ := hin s _ h
      have := h4 _ z' k3 k1
      omega

/-- hops that lead from x, wherever one was there ahead of y, to q, for K -/
def Leads (g : Gr) (x y q K : Int) (l : List Hp) : Prop := ∀ y1 c, y1 ≤ y → ∃ τ, goF g (some (x, y1, c)) l = some (q, τ, c + K)
theorem leads_nil (g : Gr) (x y : Int) : Leads g x y x 0 [] := fun y1 c _ => ⟨y1, by rw [goF_nil, Int.add_zero]⟩
theorem Leads.cons {g : Gr} {x y q K : Int} {l : List Hp} (h : Leads g x y q K l) {r : Ri} (hr : RideOk g r) (hv : r.2.2.2.1 = x) (ha : r.2.2.2.2.1 ≤ y) : Leads g r.2.2.1 r.2.1 q (K + r.2.2.2.2.2) ((r.1, r.2.1) :: l) := fun y1 c hy => by
  obtain ⟨τ, h1⟩ := h r.2.2.2.2.1 (c + r.2.2.2.2.2) ha
  refine ⟨τ, ?_⟩
  rw [goF_cons, Option.bind_some, hr.hop hy, hv, h1]
  congr 3
  omega
/-- what Way of the cheapest tells -/
def CWayIs (g : Gr) (v t q e : Int) (l : List Hp) : Prop :=
  (placeE g v t ≠ 0 ∧ e = placeE g v t ∧ l = []) ∨
  (placeE g v t = 0 ∧ (¬ (0 ≤ q ∧ q < g.lives.length) ∨ ∀ τ p, ¬ Pay g (fun r => r.2.2.2.2.2) v t q τ p) ∧ e = 4 ∧ l = []) ∨
  (placeE g v t = 0 ∧ (0 ≤ q ∧ q < g.lives.length) ∧ e = 0 ∧ l.length ≤ 100 ∧ ∃ τ P, aliveB t g.lives v = true ∧ goF g (some (v, t, 0)) l = some (q, τ, P) ∧ (∃ τ', Pay g (fun r => r.2.2.2.2.2) v t q τ' P) ∧ ∀ τ' p, Pay g (fun r => r.2.2.2.2.2) v t q τ' p → P ≤ p)
/-- at the vertex where one began nothing is paid -/
theorem own_zero {g : Gr} (R : Right g) {pr : Ri → Int} (hpr : PrOk g pr) {v t : Int} (h0 : 0 ≤ v) (ha : aliveB t g.lives v = true) {M : Mp} (S : SpE g (F1 v t) pr M) {y : Int} {z : Vs} (hz : M v y = some z) : z.1 = 0 ∧ t ≤ y := by
  have h1 := S.snd _ _ _ hz
  have h2 := h1.range R hpr h0 ha
  have h3 := h1.place R (F1_ok h0 ha)
  have h4 : Pd g (F1 v t) pr v t 0 := .base (by unfold F1; rw [if_pos ⟨rfl, rfl⟩])
  obtain ⟨z', k1, k2⟩ := S.all _ _ _ (h4.waits R (F1_ok h0 ha) h3.2.2.2.2.2 h3.2.2.1)
  rw [hz] at k1
  cases k1
  omega

end Go.Proofs.YtkgbgkcbflicmaiDoor

namespace Go.Proofs.YtkgbgkcbflicmaiDoor
open Go.RowKit

theorem Tryd.infoHopJ : (Tryd.prog.info? 43).map (fun i => (i.zero, i.size, i.bytes)) = some (some (.agg #[.int .i64 0, .int .i64 0]), 2, 16) := by kernel_rfl
theorem stopHere {p : Prop} (h : Hid p) : p := h
theorem encs_appj (a b : List (Int × Int)) : encs (a ++ b) = encs a ++ encs b := by simp [encs, flat]
/-- what Out answers -/
def outAns (g : Gr) (v t : Int) : List Hp := if placeE g v t = 0 then outsF g v t else []

theorem results_two_j {fn : Func} {t u : Tmp} (h : fn.results = #[.tmp t, .tmp u]) (tmps : Array Value) (P : Program) (w : World) :
    (results fn tmps).run P w = .ok (.tuple #[tmps.getD t undef, tmps.getD u undef]) w := by
  simp [results, h]

end Go.Proofs.YtkgbgkcbflicmaiDoor

namespace Go.Proofs.YtkgbgkcbflicmaiDoor
open Go.RowKit

/-- an operation waits for each of some others, itself or by way of another one of them -/
def waitsAll (ops : Array Oper) (o : Oper) : Bool := (List.range ops.size).all fun j =>
  o.after.any (fun e => Region.binds .any e && e.on == j) || (List.range ops.size).any fun k => decide (j < k) && match ops[k]? with
    | some o => o.after.any fun e => Region.binds .any e && e.on == j
    | none => false
theorem all_of_waits {ops : Array Oper} {o : Oper} {listed : Array Bool} (hl : waitsAll ops o = true) (hc : Closed ops listed) (hsz : listed.size = ops.size) (hs : ∀ e ∈ o.after, Region.binds .any e = true → e.on < ops.size → listed.getD e.on false = true) : ∀ d j, j + d = ops.size → j < ops.size → listed.getD j false = true := by
  intro d
  induction d using Nat.strongRecOn with
  | _ d ih =>
    intro j hd hj
    have h1 := List.all_eq_true.1 hl j (List.mem_range.2 hj)
    rw [Bool.or_eq_true] at h1
    rcases h1 with h1 | h1
    · obtain ⟨e, he, h2⟩ := arr_any h1
      rw [Bool.and_eq_true, beq_iff_eq] at h2
      rw [← h2.2]
      exact hs e he h2.1 (by rw [h2.2]; exact hj)
    · obtain ⟨k, hk, h2⟩ := List.any_eq_true.1 h1
      rw [List.mem_range] at hk
      rw [Bool.and_eq_true, decide_eq_true_eq] at h2
      have ho : ops[k]? = some ops[k] := Array.getElem?_eq_getElem hk
      simp only [ho] at h2
      obtain ⟨e, he, h3⟩ := arr_any h2.2
      rw [Bool.and_eq_true, beq_iff_eq] at h3
      have hkl := ih (d - (k - j)) (by omega) k (by omega) hk
      rw [← h3.2]
      refine hc k _ ho ?_ e he h3.1
      have hk' : k < listed.size := by omega
      simpa [hk'] using hkl

theorem getD_app {l r : Array Bool} {j : Nat} (d : Bool) (h : j < l.size) : (l ++ r).getD j d = l.getD j d := by
  simp [Nat.lt_of_lt_of_le h]
theorem getElem_app {ops suf : Array Oper} {j : Nat} (h : j < ops.size) : (ops ++ suf)[j]? = ops[j]? := Array.getElem?_append_left h

theorem ready_split {ops suf : Array Oper} {listed r : Array Bool} (hf : fwdB ops = true) (hw : ∀ o ∈ suf, waitsAll ops o = true) (hc : Closed ops listed) (hsz : listed.size = ops.size) (hne : Region.ready .any ops listed ≠ []) (i : Nat) :
    i ∈ Region.ready .any (ops ++ suf) (listed ++ r) ↔ i ∈ Region.ready .any ops listed := by
  rw [mem_ready, mem_ready]
  rcases Nat.lt_or_ge i ops.size with hi | hi
  · rw [getD_app true (by omega), getElem_app hi]
    refine and_congr_right fun _ => exists_congr fun o => and_congr_right fun ho => forall_congr' fun e => forall_congr' fun he => forall_congr' fun hb => ?_
    have := (fwd_spec hf ho).2 e he hb
    rw [getD_app false (by omega)]
  · constructor
    · rintro ⟨_, o, ho, hall⟩
      exfalso
      rw [Array.getElem?_append_right hi] at ho
      have hm : o ∈ suf := Array.mem_of_getElem? ho
      apply hne
      have hall2 := all_of_waits (hw o hm) hc hsz (fun e he hb hlt => by have := hall e he hb; rwa [getD_app false (by omega)] at this)
      apply List.eq_nil_iff_forall_not_mem.2
      intro j hj
      rw [mem_ready] at hj
      obtain ⟨h0, o, hoj, _⟩ := hj
      have hjlt : j < ops.size := (Array.getElem?_eq_some_iff.1 hoj).1
      have h1 := hall2 (ops.size - j) j (by omega) hjlt
      have hj' : j < listed.size := by omega
      simp [hj'] at h0 h1
      rw [h0] at h1
      cases h1
    · rintro ⟨_, o, ho, _⟩
      rw [Array.getElem?_eq_none hi] at ho
      cases ho

/-- the post of the first part -/
def SplitQ (R : Act → World → Prop) (Q : Exit → Act → World → Prop) : Exit → Act → World → Prop
  | .normal, a, w => R a w
  | e, a, w => Q e a w
theorem wp_split {P : Program} {o : Oper} {R : Act → World → Prop} {Q : Exit → Act → World → Prop} {K K' : Act → World → Prop} {a : Act} {w : World} (hK : ∀ a w, K a w → K' a w) (h : o.wp P a w K (SplitQ R Q)) : o.wp P a w K' Q := by
  unfold Oper.wp at *
  generalize (execOp a.eval o).run P w = r at *
  cases r with
  | ok n w' =>
    cases n <;> simp only [Oper.upon] at h ⊢ <;>
      first
        | exact hK _ _ h
        | exact Calls.mono h (fun e w'' he => by cases e <;> first | exact hK _ _ he | exact he)
        | exact Rows.mono h (fun _ _ he => hK _ _ he)
  | halt x w' => cases x <;> simp only [Oper.upon] at h ⊢ <;> exact h

theorem wpAny_more {P : Program} {md : Region.Mode} {ops : Array Oper} {Q : Exit → Act → World → Prop} : ∀ (fuel : Nat) (listed : Array Bool) (a : Act) (w : World), wpAny P md ops Q fuel listed a w → wpAny P md ops Q (fuel + 1) listed a w
  | 0, _, _, _, h => ⟨fun _ => h.2, by rw [h.1]; simp⟩
  | fuel + 1, _, _, _, h => ⟨h.1, fun i hi => wpOp_mono (fun a' w' h' => wpAny_more fuel _ a' w' h') (h.2 i hi)⟩
theorem wpAny_mores {P : Program} {md : Region.Mode} {ops : Array Oper} {Q : Exit → Act → World → Prop} {n : Nat} {listed : Array Bool} {a : Act} {w : World} (h : wpAny P md ops Q n listed a w) : ∀ k, wpAny P md ops Q (k + n) listed a w
  | 0 => by rwa [Nat.zero_add]
  | k + 1 => by rw [show k + 1 + n = (k + n) + 1 by omega]; exact wpAny_more _ _ _ _ (wpAny_mores h k)

theorem split_sound {P : Program} {ops suf : Array Oper} {Q : Exit → Act → World → Prop} (hf : fwdB ops = true) (hw : ∀ o ∈ suf, waitsAll ops o = true) : ∀ (fuel : Nat) (listed : Array Bool) (a : Act) (w : World), listed.size = ops.size → Closed ops listed →
    wpAny P .any ops (SplitQ (fun a w => wpAny P .any (ops ++ suf) Q suf.size (Array.replicate ops.size true ++ Array.replicate suf.size false) a w) Q) fuel listed a w → wpAny P .any (ops ++ suf) Q (fuel + suf.size) (listed ++ Array.replicate suf.size false) a w := by
  have fin : ∀ (fuel : Nat) (listed : Array Bool) (a : Act) (w : World), listed.size = ops.size → Region.ready .any ops listed = [] → wpAny P .any (ops ++ suf) Q suf.size (Array.replicate ops.size true ++ Array.replicate suf.size false) a w → wpAny P .any (ops ++ suf) Q (fuel + suf.size) (listed ++ Array.replicate suf.size false) a w := by
    intro fuel listed a w hsz hr hq
    have hall := all_listed hf hsz hr
    have e : listed = Array.replicate ops.size true := by
      apply Array.ext
      · simpa using hsz
      · intro j h1 h2
        have := hall j (by omega)
        simpa [h1] using this
    rw [e]
    exact wpAny_mores hq fuel
  intro fuel
  induction fuel with
  | zero =>
    intro listed a w hsz hc h
    exact fin 0 listed a w hsz h.1 h.2
  | succ fuel ih =>
    intro listed a w hsz hc h
    by_cases hr : Region.ready .any ops listed = []
    · exact fin (fuel + 1) listed a w hsz hr (h.1 hr)
    · rw [show fuel + 1 + suf.size = (fuel + suf.size) + 1 by omega]
      refine ⟨fun h0 => ?_, fun i hi => ?_⟩
      · exfalso
        apply hr
        apply List.eq_nil_iff_forall_not_mem.2
        intro j hj
        have := (ready_split (r := Array.replicate suf.size false) hf hw hc hsz hr j).2 hj
        rw [h0] at this
        cases this
      · have hi' := (ready_split hf hw hc hsz hr i).1 hi
        have h1 := h.2 i hi'
        obtain ⟨hun, o, ho, hdep⟩ := mem_ready.1 hi'
        have hilt : i < ops.size := (Array.getElem?_eq_some_iff.1 ho).1
        have ho' : (ops ++ suf)[i]? = some o := by rw [getElem_app hilt]; exact ho
        have hg := (fwd_spec hf ho).1
        have eset : (listed ++ Array.replicate suf.size false).setIfInBounds i true = (listed.setIfInBounds i true) ++ Array.replicate suf.size false := by
          rw [Array.setIfInBounds_append_left (by omega)]
        have hc' : Closed ops (listed.setIfInBounds i true) := by
          intro j oj hoj hlj e he hb
          by_cases hij : i = j
          · subst hij
            rw [ho] at hoj
            cases hoj
            exact getD_set_true (hdep e he hb)
          · rw [getD_set_ne true hij] at hlj
            exact getD_set_true (hc j oj hoj hlj e he hb)
        unfold wpOp at h1 ⊢
        simp only [ho, ho', Region.wanted, hg, if_true] at h1 ⊢
        rw [eset]
        refine h1.imp (fun hh => wp_split (fun a' w' hk => ih _ a' w' (by simpa using hsz) hc' hk) hh) (fun hh => ⟨hh.1, hh.2⟩)

/-- the beginning: m operations are the first part -/
theorem wp_region_split {P : Program} (w0 : World) (m : Nat) {id : Nat} {l : List Oper} {Q : Exit → Act → World → Prop} {a : Act} {w : World} (h0 : Below w0.heap.size w0 w) (hm : P.follows .mixedOrders = true) (hB : Region.lexB .any (l.take m).toArray = true) (hf : fwdB (l.take m).toArray = true) (hw : (l.drop m).all (waitsAll (l.take m).toArray) = true)
    (h : wpQuiet P (l.take m).toArray (fun w' => ∃ s : HeldIn w0, w' = s.w) (fun a' => ∀ w', (∃ s : HeldIn w0, w' = s.w) → wpAnyH P .any l.toArray Q (fun _ => True) (l.drop m).length (Array.replicate (l.take m).length true ++ Array.replicate (l.drop m).length false) a' w') (l.take m) a) : (Code.region id l.toArray true).wp P Q a w := by
  have e : l.toArray = (l.take m).toArray ++ (l.drop m).toArray := by simp
  generalize hp : l.take m = p at *
  generalize hs : l.drop m = s at *
  clear hp hs
  refine wp_region_any hm ?_
  simp only [Region.lexB, Bool.and_eq_true] at hB
  rw [e] at h ⊢
  have h1 : wpAny P .any p.toArray (SplitQ (fun a w => wpAny P .any (p.toArray ++ s.toArray) Q s.toArray.size (Array.replicate p.toArray.size true ++ Array.replicate s.toArray.size false) a w) Q) p.toArray.size (Array.replicate p.toArray.size false) a w.drew := by
    refine wpAny_of_quiet (C := fun w' => ∃ s : HeldIn w0, w' = s.w) (Q := fun a' => ∀ w', (∃ s : HeldIn w0, w' = s.w) → wpAnyH P .any (p.toArray ++ s.toArray) Q (fun _ => True) s.length (Array.replicate p.length true ++ Array.replicate s.length false) a' w') (fun _ w' hw' h => by have := wpAny_of_held _ _ _ _ (h w' hw'); simpa [SplitQ] using this) _ _ _ _ ⟨⟨_, h0.drew⟩, rfl⟩ ?_
    have := wpAnyQ_lex (C := fun w' => ∃ s : HeldIn w0, w' = s.w) (md := .any) hB.1 p 0 (Array.replicate p.toArray.size false) a (by simp) (by simpa using hB.2) h
    simpa using this
  have h2 := split_sound hf (fun o ho => List.all_eq_true.1 hw o (by simpa using ho)) p.toArray.size _ a w.drew (by simp) (by
    intro j o hj hlj
    have : j < p.toArray.size := (Array.getElem?_eq_some_iff.1 hj).1
    simp at this
    simp [this] at hlj) h1
  have e1 : (Array.replicate p.toArray.size false) ++ (Array.replicate s.toArray.size false) = Array.replicate (p.toArray ++ s.toArray).size false := by simp
  have e2 : p.toArray.size + s.toArray.size = (p.toArray ++ s.toArray).size := by simp
  rw [e1, e2] at h2
  exact h2

end Go.Proofs.YtkgbgkcbflicmaiDoor

namespace Go.Proofs.YtkgbgkcbflicmaiDoor
open Go.RowKit

theorem results_tmp4j {fn : Func} {t u v x : Tmp} (h : fn.results = #[.tmp t, .tmp u, .tmp v, .tmp x]) (tmps : Array Value) (P : Program) (w : World) :
    (results fn tmps).run P w = .ok (.tuple #[tmps.getD t undef, tmps.getD u undef, tmps.getD v undef, tmps.getD x undef]) w := by
  simp [results, h]
/-- what Go hands back -/
def goW (a : Int × Int × Int × Int) : Value := .tuple #[.int .i64 a.1, .int .i64 a.2.1, .int .i64 a.2.2.1, .int .i64 a.2.2.2]
/-- a stop in a box: where one is, if one is anywhere -/
structure SBx (W : World) (B : Nat) (q : Int × Int × Int) : Prop where
  c0 : W.cell? ⟨B, 0, none⟩ = some (.int .i64 q.1)
  c1 : W.cell? ⟨B, 1, none⟩ = some (.int .i64 q.2.1)
  c2 : W.cell? ⟨B, 2, none⟩ = some (.int .i64 q.2.2)
  fz : ∀ j, W.frozen? ⟨B, j, none⟩ = false
  lt : B < W.heap.size
theorem SBx.below {W W' : World} {B : Nat} {q : Int × Int × Int} (h : SBx W B q) (hb : Below W.heap.size W W') : SBx W' B q :=
  ⟨(hb.cell (p := ⟨B, 0, none⟩) h.lt).trans h.c0, (hb.cell (p := ⟨B, 1, none⟩) h.lt).trans h.c1, (hb.cell (p := ⟨B, 2, none⟩) h.lt).trans h.c2, fun j => (hb.frozen (p := ⟨B, j, none⟩) h.lt).trans (h.fz j), Nat.lt_of_lt_of_le h.lt hb.size⟩
theorem SBx.set {W : World} {B : Nat} {q : Int × Int × Int} (h : SBx W B q) (p : Int × Int × Int) : SBx (((W.setCell ⟨B, 0, none⟩ (.int .i64 p.1)).setCell ⟨B, 1, none⟩ (.int .i64 p.2.1)).setCell ⟨B, 2, none⟩ (.int .i64 p.2.2)) B p := by
  have h0 := h.c0
  have h1 := h.c1
  have h2 := h.c2
  have hf := h.fz
  refine ⟨?_, ?_, ?_, fun j => ?_, by simpa using h.lt⟩
  · rw [World.cell?_setCell_other _ _ _ _ (by simp), World.cell?_setCell_other _ _ _ _ (by simp)]; exact World.cell?_setCell_same _ _ _ h0
  · rw [World.cell?_setCell_other _ _ _ _ (by simp)]; exact World.cell?_setCell_same _ _ _ (by rw [World.cell?_setCell_other _ _ _ _ (by simp)]; exact h1)
  · exact World.cell?_setCell_same _ _ _ (by rw [World.cell?_setCell_other _ _ _ _ (by simp), World.cell?_setCell_other _ _ _ _ (by simp)]; exact h2)
  · simp [hf]
theorem sbx_start {W : World} {q : Int × Int × Int} {T : TypeId} : SBx (W.alloc (.cells #[.int .i64 q.1, .int .i64 q.2.1, .int .i64 q.2.2] T)) W.heap.size q :=
  ⟨new_cell rfl rfl, new_cell rfl rfl, new_cell rfl rfl, fun _ => new_frozen rfl, by simp⟩
/-- the graph's box and the stop's -/
theorem GBx.set {w W : World} {B D : Nat} {g : Gr} {la ea : Option Addr} {lc ec : Nat} (h : GBx w W B g la ea lc ec) (hne : B ≠ D) (hD : w.heap.size ≤ D) (x y z : Value) : GBx w (((W.setCell ⟨D, 0, none⟩ x).setCell ⟨D, 1, none⟩ y).setCell ⟨D, 2, none⟩ z) B g la ea lc ec := by
  have h0 := h.c0
  have h1 := h.c1
  have h2 := h.c2
  have hne' : ¬ D = B := fun e => hne e.symm
  refine ⟨?_, ?_, ?_, set3 h.bel hD _ _ _, by simpa using h.lt⟩
  · rw [World.cell?_setCell_far _ _ _ _ hne', World.cell?_setCell_far _ _ _ _ hne', World.cell?_setCell_far _ _ _ _ hne']; exact h0
  · rw [World.cell?_setCell_far _ _ _ _ hne', World.cell?_setCell_far _ _ _ _ hne', World.cell?_setCell_far _ _ _ _ hne']; exact h1
  · rw [World.cell?_setCell_far _ _ _ _ hne', World.cell?_setCell_far _ _ _ _ hne', World.cell?_setCell_far _ _ _ _ hne']; exact h2

end Go.Proofs.YtkgbgkcbflicmaiDoor

namespace Go.Proofs.YtkgbgkcbflicmaiDoor
open Go.RowKit

/-- two vertices, one edge -/
def gPair : Gr := ⟨10, [(0, 10), (2, 9)], [(0, 1, [(1, 4, 3, 7)])]⟩

theorem pair_at (w : World) (o : Obj) (T1 T2 T3 : TypeId) : GAt ((((w.alloc o).alloc (.cells #[.int .i64 0, .int .i64 10, .int .i64 2, .int .i64 9] T1)).alloc (.cells #[.int .i64 1, .int .i64 4, .int .i64 3, .int .i64 7] T2)).alloc (.cells #[.int .i64 0, .int .i64 1, .slice (some ⟨w.heap.size + 1 + 1, 0, none⟩) 1 1] T3)) (some ⟨w.heap.size + 1, 0, none⟩) (some ⟨w.heap.size + 1 + 1 + 1, 0, none⟩) gPair := by
  refine ⟨.inr ⟨_, _, rfl, by simp <;> omega, fun j hj => ?_⟩, .inr ⟨_, _, rfl, by simp, fun j hj => ?_⟩, by simp [gPair], by simp [gPair]⟩
  · have hj' : j = 0 ∨ j = 1 := by simp [gPair] at hj; omega
    rcases hj' with rfl | rfl
    · exact ⟨by rw [(gal _ _).cell (by simp <;> omega), (gal _ _).cell (by simp <;> omega)]; exact new_cell (by simp) rfl, by rw [(gal _ _).cell (by simp <;> omega), (gal _ _).cell (by simp <;> omega)]; exact new_cell (by simp) rfl⟩
    · exact ⟨by rw [(gal _ _).cell (by simp <;> omega), (gal _ _).cell (by simp <;> omega)]; exact new_cell (by simp) rfl, by rw [(gal _ _).cell (by simp <;> omega), (gal _ _).cell (by simp <;> omega)]; exact new_cell (by simp) rfl⟩
  · have hj' : j = 0 := by simp [gPair] at hj; omega
    subst hj'
    refine ⟨new_cell (by simp) rfl, new_cell (by simp) rfl, some ⟨w.heap.size + 1 + 1, 0, none⟩, 1, new_cell (by simp) rfl, .inr ⟨_, _, rfl, by simp <;> omega, fun k hk => ?_⟩, by simp [gPair], by omega⟩
    have hk' : k = 0 := by simp [gPair] at hk; omega
    subst hk'
    exact ⟨by rw [(gal _ _).cell (by simp <;> omega)]; exact new_cell (by simp) rfl, by rw [(gal _ _).cell (by simp <;> omega)]; exact new_cell (by simp) rfl, by rw [(gal _ _).cell (by simp <;> omega)]; exact new_cell (by simp) rfl, by rw [(gal _ _).cell (by simp <;> omega)]; exact new_cell (by simp) rfl⟩

theorem pair_yes : goAns gPair 0 0 [(0, 3)] = (1, 6, 7, 0) := by decide
theorem pair_no : goAns gPair 0 0 [(0, 4)] = (0, 0, 0, 5) := by decide

theorem one_hop (w : World) (T : TypeId) (a b : Int) : IvAt (w.alloc (.cells #[.int .i64 a, .int .i64 b] T)) (some ⟨w.heap.size, 0, none⟩) [(a, b)] := by
  refine .inr ⟨_, _, rfl, by simp, fun j hj => ?_⟩
  have hj' : j = 0 := by simp at hj; omega
  subst hj'
  exact ⟨new_cell rfl rfl, new_cell rfl rfl⟩

end Go.Proofs.YtkgbgkcbflicmaiDoor

namespace Go.Proofs.YtkgbgkcbflicmaiDoor
open Go.RowKit

theorem outsF_len {g : Gr} {v t : Int} (hp : placeE g v t = 0) : (outsF g v t).length ≤ 3000 := by
  obtain ⟨hg0, _, ht0, _⟩ := placeE_zero hp
  have hR := gChk_right hg0
  have h1 := hR.hor
  have h2 := hR.eds
  unfold outsF
  split
  · exact Nat.le_trans (outsTo_len g v t _) (Nat.le_trans (Nat.mul_le_mul (show (g.hor - t).toNat ≤ 100 by omega) h2) (by omega))
  · simp

/-- what walk tells: a journey, and where one is behind it -/
def WalkIs (g : Gr) (v t : Int) (l : List Hp) (a b : Int) : Prop := (l = [] ∧ a = v ∧ b = t) ∨ (gChk g = 0 ∧ There g (v, t, 0) ∧ ∃ c, goF g (some (v, t, 0)) l = some (a, b, c))
theorem WalkIs.more {g : Gr} {v t a b n u c : Int} {l : List Hp} {h : Hp} (hw : WalkIs g v t l a b) (hg : goAns g a b [h] = (n, u, c, 0)) : WalkIs g v t (l ++ [h]) n u := by
  obtain ⟨h1, h2, _, h3⟩ := goAns_right hg
  right
  rcases hw with ⟨rfl, rfl, rfl⟩ | ⟨k1, k2, c', k3⟩
  · exact ⟨h1, h2, c, h3⟩
  · refine ⟨k1, k2, c + c', ?_⟩
    rw [goF_append, k3, goF_cost, h3]
    rfl

theorem results_tmp3j {fn : Func} {t u v : Tmp} (h : fn.results = #[.tmp t, .tmp u, .tmp v]) (tmps : Array Value) (P : Program) (w : World) :
    (results fn tmps).run P w = .ok (.tuple #[tmps.getD t undef, tmps.getD u undef, tmps.getD v undef]) w := by
  simp [results, h]

end Go.Proofs.YtkgbgkcbflicmaiDoor

namespace Go.Proofs.YtkgbgkcbflicmaiDoor
open Go.RowKit

/-- is a number that of a vertex? -/
def vtxB (g : Gr) (v : Int) : Bool := decide (0 ≤ v) && decide (v < (g.lives.length : Int))
theorem vtxB_iff (g : Gr) (v : Int) : vtxB g v = true ↔ 0 ≤ v ∧ v < (g.lives.length : Int) := by unfold vtxB; simp
/-- what Fastest tells -/
def FastE (g : Gr) (v q d a e : Int) : Prop :=
  (gChk g ≠ 0 ∧ e = gChk g ∧ d = 0 ∧ a = 0) ∨ (gChk g = 0 ∧ ¬ ((0 ≤ v ∧ v < (g.lives.length : Int)) ∧ 0 ≤ q ∧ q < (g.lives.length : Int)) ∧ e = 4 ∧ d = 0 ∧ a = 0) ∨
  (gChk g = 0 ∧ ((0 ≤ v ∧ v < (g.lives.length : Int)) ∧ 0 ≤ q ∧ q < (g.lives.length : Int)) ∧ FastIs g v q d a e)

/-- the states at which one may set out, of the times up to t -/
def outM (g : Gr) (v t : Int) : Mp := fun x y => if x = v ∧ aliveB y g.lives v = true ∧ y < t then some (-y, 0, 0, 0, 0, 0, 0) else none

theorem outM_first {g : Gr} {V : Nat} (hV : V < g.lives.length) : outM g (V : Int) g.lives[V].1 = fun _ _ => none := by
  funext x y
  unfold outM
  rw [if_neg]
  rintro ⟨_, h1, h2⟩
  rw [aliveB_at _ _ _ hV] at h1
  have := (hasB_iff _ _ _).1 h1
  omega
theorem outM_next {g : Gr} {V : Nat} (hV : V < g.lives.length) {t : Int} (h1 : g.lives[V].1 ≤ t) (h2 : t < g.lives[V].2) : mset (outM g (V : Int) t) (V : Int) t (-t, 0, 0, 0, 0, 0, 0) = outM g (V : Int) (t + 1) := by
  have ha : aliveB t g.lives (V : Int) = true := by rw [aliveB_at _ _ _ hV]; exact (hasB_iff _ _ _).2 ⟨h1, h2⟩
  funext x y
  unfold mset outM
  by_cases e : x = (V : Int) ∧ y = t
  · obtain ⟨rfl, rfl⟩ := e
    rw [if_pos ⟨rfl, rfl⟩, if_pos ⟨rfl, ha, by omega⟩]
  · rw [if_neg e]
    by_cases e2 : x = (V : Int) ∧ aliveB y g.lives (V : Int) = true ∧ y < t
    · rw [if_pos e2, if_pos ⟨e2.1, e2.2.1, by omega⟩]
    · rw [if_neg e2, if_neg (fun k => e2 ⟨k.1, k.2.1, by have := fun h => e ⟨k.1, h⟩; omega⟩)]
theorem outM_last {g : Gr} {V : Nat} (hV : V < g.lives.length) (x y : Int) : (outM g (V : Int) g.lives[V].2 x y).map (·.1) = FF g (V : Int) x y := by
  unfold outM FF
  by_cases e : x = (V : Int) ∧ aliveB y g.lives (V : Int) = true
  · have h1 := e.2
    rw [aliveB_at _ _ _ hV] at h1
    have := (hasB_iff _ _ _).1 h1
    rw [if_pos ⟨e.1, e.2, by omega⟩, if_pos e]; rfl
  · rw [if_neg (fun k => e ⟨k.1, k.2.1⟩), if_neg e]; rfl

end Go.Proofs.YtkgbgkcbflicmaiDoor

namespace Go.Proofs.YtkgbgkcbflicmaiDoor

theorem Pay.rch {g : Gr} (R : Right g) {pr : Ri → Int} {v t x y p : Int} (h : Pay g pr v t x y p) : Rch g v t x y := by
  obtain ⟨ha, h⟩ := h
  induction h with
  | @base x y p h =>
    unfold F1 at h
    split at h
    · rename_i e; obtain ⟨rfl, rfl⟩ := e; exact .base ha
    · cases h
  | wait _ hal ih => exact .wait ih hal
  | ride hr _ ih => exact (mem_rides R hr).go ih
theorem Rch.pay {g : Gr} (R : Right g) (pr : Ri → Int) {v t x y : Int} (h0 : 0 ≤ v) (h : Rch g v t x y) : ∃ p, Pay g pr v t x y p := by
  induction h with
  | base ha => exact ⟨0, ha, .base (by unfold F1; rw [if_pos ⟨rfl, rfl⟩])⟩
  | wait _ hal ih =>
    obtain ⟨p, hp⟩ := ih
    exact ⟨p, hp.1, .wait hp.2 hal⟩
  | @ride t q i hi h hq ih =>
    obtain ⟨p, hp⟩ := ih
    exact ⟨_, hp.1, .ride (ride_mem R hi (h.place R h0).2.2.1 hq) hp.2⟩
/-- what has few hops costs no more than so many of the dearest -/
theorem pay_both {g : Gr} (R : Right g) {v t x y p : Int} (h : Pay g prOne v t x y p) : ∃ q, Pay g prCost v t x y q ∧ q ≤ p * 1000 := by
  obtain ⟨ha, h⟩ := h
  induction h with
  | @base x y p h =>
    refine ⟨p, ⟨ha, .base h⟩, ?_⟩
    unfold F1 at h
    split at h
    · cases h; omega
    · cases h
  | wait _ hal ih =>
    obtain ⟨q, hq, hle⟩ := ih
    exact ⟨q, ⟨ha, .wait hq.2 hal⟩, hle⟩
  | @ride p r hr _ ih =>
    obtain ⟨q, hq, hle⟩ := ih
    have := (mem_rides R hr).c0
    refine ⟨q + prCost r, ⟨ha, .ride hr hq.2⟩, ?_⟩
    unfold prCost prOne
    omega
/-- one hop is a ride -/
theorem hop_pay {g : Gr} (R : Right g) {pr : Ri → Int} {v0 t0 v t c p : Int} (h0 : 0 ≤ v0) {h : Hp} {s : Int × Int × Int} (e : hopF g (v, t, c) h = some s) (hp : Pay g pr v0 t0 v t p) : Pay g pr v0 t0 s.1 s.2.1 (p + pr (h.1, h.2, v, s.1, s.2.1, s.2.2 - c)) := by
  unfold hopF at e
  split at e
  · rename_i h1
    have h1 := (inR_iff _ _ _).1 h1
    obtain ⟨E, hE⟩ : ∃ E : Nat, h.1 = (E : Int) := ⟨h.1.toNat, by omega⟩
    have hE' : E < g.edges.length := by omega
    have hg : g.edges.getD h.1.toNat (0, 0, []) = g.edges[E] := by rw [hE, Int.toNat_natCast, List.getD_eq_getElem?_getD, List.getElem?_eq_getElem hE']; rfl
    rw [hg] at e
    split at e
    · rename_i h2
      split at e
      · cases e
      · rename_i q hq
        simp only [Option.some.injEq] at e
        subst e
        simp only at h2
        obtain ⟨k1, k2, k3, k4, _, _⟩ := lands_lt R hE' hq
        have hw := hp.waits R h0 h2.2 (by rw [← h2.1]; exact k2)
        have hd := (hw.place R h0).2.2.2.1
        rw [← h2.1] at hw
        have := Pd.ride (ride_mem R hE' hd hq) hw.2
        simp only at this
        have hc : c + q.2 - c = q.2 := by omega
        simp only
        rw [hc, hE, ← h2.1]
        exact ⟨hp.1, this⟩
    · cases e
  · cases e
/-- a journey is paid for -/
theorem go_pay {g : Gr} (R : Right g) {v0 t0 : Int} (h0 : 0 ≤ v0) : ∀ (l : List Hp) (v t c p n : Int) (s : Int × Int × Int), Pay g prCost v0 t0 v t p → Pay g prOne v0 t0 v t n → goF g (some (v, t, c)) l = some s → Pay g prCost v0 t0 s.1 s.2.1 (p + (s.2.2 - c)) ∧ Pay g prOne v0 t0 s.1 s.2.1 (n + l.length)
  | [], v, t, c, p, n, s, hp, hn, e => by
    rw [goF_nil] at e
    cases e
    simp only [List.length_nil, Int.natCast_zero, Int.add_zero, Int.sub_self]
    exact ⟨hp, hn⟩
  | h :: l, v, t, c, p, n, s, hp, hn, e => by
    rw [goF_cons, Option.bind_some] at e
    cases e1 : hopF g (v, t, c) h with
    | none => rw [e1, goF_none] at e; cases e
    | some s1 =>
      rw [e1] at e
      have k1 := hop_pay R h0 e1 hp
      have k2 := hop_pay R h0 e1 hn
      obtain ⟨q1, q2⟩ := go_pay R h0 l s1.1 s1.2.1 s1.2.2 _ _ s k1 k2 e
      unfold prCost at q1
      unfold prOne at q2
      refine ⟨?_, ?_⟩
      · rw [show p + (s.2.2 - c) = p + (s1.2.2 - c) + (s.2.2 - s1.2.2) by omega]; exact q1
      · rw [List.length_cons, show n + ((l.length + 1 : Nat) : Int) = n + 1 + l.length by omega]; exact q2
theorem go_pays {g : Gr} (R : Right g) {v t : Int} (h0 : 0 ≤ v) (ha : aliveB t g.lives v = true) {l : List Hp} {s : Int × Int × Int} (e : goF g (some (v, t, 0)) l = some s) : Pay g prCost v t s.1 s.2.1 s.2.2 ∧ Pay g prOne v t s.1 s.2.1 l.length := by
  have hb : ∀ pr, Pay g pr v t v t 0 := fun pr => ⟨ha, .base (by unfold F1; rw [if_pos ⟨rfl, rfl⟩])⟩
  have := go_pay R h0 l v t 0 0 0 s (hb _) (hb _) e
  simpa using this
/-- earliest times and least prices are told of the same vertices -/
theorem inf_same {g : Gr} (R : Right g) {pr : Ri → Int} (hpr : PrOk g pr) {v t : Int} (h0 : 0 ≤ v) {L : List Int} (h : LeastIs g pr v t L) {x : Nat} (hx : x < g.lives.length) : (L.getD x 0 = 1099511627776 ↔ (erF g v t).1.getD x 0 = 1099511627776) ∧ (L.getD x 0 ≠ 1099511627776 → 0 ≤ L.getD x 0 ∧ L.getD x 0 ≤ 100000) ∧ ((erF g v t).1.getD x 0 ≠ 1099511627776 → Rch g v t x ((erF g v t).1.getD x 0) ∧ aliveB t g.lives v = true) := by
  have hr2 : (erF g v t).1.getD x 0 ≠ 1099511627776 → Rch g v t x ((erF g v t).1.getD x 0) ∧ aliveB t g.lives v = true := fun hne => by
    by_cases ha : aliveB t g.lives v = true
    · rcases (erF_ok R h0 ha).1.is x hx with e | e
      · exact absurd e hne
      · exact ⟨e, ha⟩
    · exact absurd (by rw [erF_away ha, rep_getD _ _ _ hx]) hne
  refine ⟨⟨fun e => Classical.byContradiction fun hne => ?_, fun e => Classical.byContradiction fun hne => ?_⟩, fun hne => ?_, hr2⟩
  · obtain ⟨p, hp⟩ := (hr2 hne).1.pay R pr h0
    have h1 := h.least x hx _ _ hp
    have h2 := hp.range R hpr h0
    omega
  · rcases h.is x hx with k | ⟨y, k⟩
    · exact hne k
    · have h1 := (erF_ok R h0 k.1).2 _ _ (k.rch R)
      have h2 := (k.place R h0).2.2.2
      have h3 := R.hor
      simp only [Int.toNat_natCast] at h1
      omega
  · rcases h.is x hx with k | ⟨y, k⟩
    · exact absurd k hne
    · exact k.range R hpr h0
theorem er_le {g : Gr} (R : Right g) {v t : Int} (h0 : 0 ≤ v) {x : Nat} (hx : x < g.lives.length) : 0 ≤ (erF g v t).1.getD x 0 ∧ (erF g v t).1.getD x 0 ≤ 1099511627776 ∧ ((erF g v t).1.getD x 0 ≠ 1099511627776 → (erF g v t).1.getD x 0 < g.hor) := by
  have hh := R.hor
  by_cases ha : aliveB t g.lives v = true
  · rcases (erF_ok R h0 ha).1.is x hx with e | e
    · rw [e]; exact ⟨by omega, by omega, fun h => absurd rfl h⟩
    · have := (e.place R h0).2.2; exact ⟨by omega, by omega, fun _ => by omega⟩
  · rw [erF_away ha, rep_getD _ _ _ hx]; exact ⟨by omega, by omega, fun h => absurd rfl h⟩
/-- a lower bound of vertices that no ride goes below -/
theorem pay_bound {g : Gr} {pr : Ri → Int} {v t : Int} {b : Int → Int} (hb : b v ≤ 0) (hr : ∀ r ∈ ridesF g, b r.2.2.2.1 ≤ b r.2.2.1 + pr r) {x y p : Int} (h : Pay g pr v t x y p) : b x ≤ p := by
  obtain ⟨_, h⟩ := h
  induction h with
  | @base x y p h =>
    unfold F1 at h
    split at h
    · rename_i e; obtain ⟨rfl, _⟩ := e; cases h; exact hb
    · cases h
  | wait _ _ ih => exact ih
  | ride hm _ ih => have := hr _ hm; omega

end Go.Proofs.YtkgbgkcbflicmaiDoor

namespace Go.Proofs.YtkgbgkcbflicmaiDoor
open Go.RowKit

theorem ltGo_take {T : List Int} {l : List Ri} {k : Nat} (hk : k < l.length) : ltGo T (l.take (k + 1)) = ltT (ltGo T (l.take k)) l[k] := by
  unfold ltGo; rw [List.take_succ_eq_append_getElem hk, List.foldl_append]; rfl
/-- what latest holds while it looks at the rides -/
structure LtSt (w0 w : World) (m1 m3 n : Nat) (u : Value) (rides : List Ri) (T : List Int) : Prop where
  t : Zo w w0.heap.size m1 n n T
  r : w.ownsRow m3 67 6 u rides.length (encRs rides)
  b : Below w0.heap.size w0 w
theorem LtSt.below {w0 w w' : World} {m1 m3 n : Nat} {u : Value} {rides : List Ri} {T : List Int} (h : LtSt w0 w m1 m3 n u rides T) (hb : Below w.heap.size w w') : LtSt w0 w' m1 m3 n u rides T :=
  ⟨ownsRow_below h.t hb, ownsRow_below h.r hb, h.b.trans (hb.mono h.b.size)⟩
theorem LtSt.set {w0 w : World} {m1 m3 n : Nat} {u : Value} {rides : List Ri} {T : List Int} (h : LtSt w0 w m1 m3 n u rides T) (h13 : m1 < m3) (k : Nat) (x : Int) : LtSt w0 (w.setCell ⟨m1, k, none⟩ (.int .i64 x)) m1 m3 n u rides (T.set k x) := by
  have hm1 : w0.heap.size ≤ m1 := (World.ownsRow.lt h.t m1 rfl).1
  have hu : u.ownBlock ≠ some m1 := own_none fun k hk => Nat.lt_of_lt_of_le h13 (World.ownsRow.lt h.r k hk).1
  exact ⟨Zo.set h.t k x, ownsRow_setCell_other h.r hu _, h.b.setCell (p := ⟨m1, k, none⟩) hm1 _⟩
theorem LtSt.ride {w0 w : World} {m1 m3 n : Nat} {u : Value} {rides : List Ri} {T : List Int} (h : LtSt w0 w m1 m3 n u rides T) {k : Nat} (hk : k < rides.length) : ∃ rb cap, u = .slice (some ⟨rb, 0, none⟩) rides.length cap ∧ rb < w.heap.size ∧ RdOne w rb (k * 6) (rides.getD k ri0) := by
  have hr := h.r
  rcases hr.2 with ⟨_, h0⟩ | ⟨rb, cap, cur, e, _, hh, _⟩
  · omega
  · rw [e] at hr
    exact ⟨rb, cap, e, (Array.getElem?_eq_some_iff.1 hh).1, Ro.one hr hk⟩

/-- what Arrivals and Departures answer -/
def arrA (g : Gr) (v t : Int) : List Int := if placeE g v t = 0 then (erF g v t).1 else []
def depA (g : Gr) (v t : Int) : List Int := if placeE g v t = 0 then ltF g v t else []

set_option maxRecDepth 100000 in
set_option maxHeartbeats 1000000 in
theorem eArr_any (g : Gr) (la ea : Option Addr) (lc ec : Nat) (v t : Int) (w : World) (hG : GAt w la ea g) :
    Calls Tryd.prog 7 #[.agg #[.int .i64 g.hor, .slice la g.lives.length lc, .slice ea g.edges.length ec], .int .i64 v, .int .i64 t] w fun r w' => ∃ u, r = .returned (.tuple #[u, .int .i64 (placeE g v t)]) ∧ w'.ownsRow w.heap.size 3 1 u (arrA g v t).length ((arrA g v t).map (Value.int .i64)) ∧ Below w.heap.size w w' := by
  have B0 := gbx_start w g la ea lc ec 25
  have h1 := jcheck_any g la ea lc ec v t _ (hG.below B0.bel)
  by_cases e1 : placeE g v t = 0
  case neg =>
    have HP : Hid (arrA g v t = []) := by show _ = _; unfold arrA; rw [if_neg e1]
    have d1 : (placeE g v t != 0) = true := by simpa using e1
    generalize placeE g v t = n at *
    clear e1 hG
    go_enter Tryd.func7, Tryd.ntmps7
    go_wp2_with fail
    refine h1.mono ?_
    rintro r w1 ⟨rfl, hb1⟩
    have hbF := (B0.below hb1).bel
    clear h1 hb1 B0
    go_wp2
    (try simp only [Exit.inBlock, Exit.then]); refine bodyPost_ret (results_two_e rfl _ _ _) rfl ?_
    exact ⟨_, rfl, by rw [HP.out]; exact World.ownsRow_nil _ _ _ _, hbF⟩
  have HP : Hid (arrA g v t = (erF g v t).1) := by show _ = _; unfold arrA; rw [if_pos e1]
  have HL := hideg (erF_len g v t).1
  have h2 := fun W (hb : Below w.heap.size w W) => earliest_any g la ea lc ec v t W (hG.below hb) e1
  rw [e1] at h1 ⊢
  generalize (erF g v t).1 = T at *
  generalize (erF g v t).2 = L at *
  have HP2 := HP.out
  have HQ := hideg HP2
  clear hG e1 HP HP2
  go_enter Tryd.func7, Tryd.ntmps7
  go_wp2_with fail
  refine h1.mono ?_
  rintro r w1 ⟨rfl, hb1⟩
  have B1 := B0.below hb1
  have g0 := B1.c0
  have g1 := B1.c1
  have g2 := B1.c2
  have hbx := B1.bel
  clear h1 hb1 B0
  go_wp2_with fail
  refine (h2 _ hbx).mono ?_
  rintro r w2 ⟨m1, m2, rfl, hZ, _, hb2⟩
  have HZ := hideg (owns_base2 hZ hbx.size)
  have hbF := ptg hbx hb2
  clear h2 hZ hb2 g0 g1 g2 hbx B1
  go_wp2
  (try simp only [Exit.inBlock, Exit.then]); refine bodyPost_ret (results_two_e rfl _ _ _) rfl ?_
  exact ⟨_, rfl, by rw [HQ.out, HL.out]; exact HZ.out, hbF⟩

end Go.Proofs.YtkgbgkcbflicmaiDoor

namespace Go.Proofs.YtkgbgkcbflicmaiDoor
open Go.RowKit

/-- the first k and the last k of a list are turned round -/
def RevTo (l m : List Hp) (k : Nat) : Prop := m.length = l.length ∧ ∀ x, x < l.length → m.getD x (0, 0) = if x < k ∨ l.length ≤ x + k then l.getD (l.length - 1 - x) (0, 0) else l.getD x (0, 0)
theorem revTo_zero (l : List Hp) : RevTo l l 0 := ⟨rfl, fun x hx => by rw [if_neg (by omega)]⟩
theorem getD_setH (T : List Hp) (i j : Nat) (x d : Hp) (h : i < T.length) : (T.set i x).getD j d = if j = i then x else T.getD j d := by
  simp only [List.getD_eq_getElem?_getD, List.getElem?_set]
  by_cases e : i = j
  · subst e; simp [h]
  · have : ¬ j = i := fun h => e h.symm
    simp [e, this]
theorem revTo_step {l m : List Hp} {k J : Nat} (h : RevTo l m k) (hJ : J = l.length - 1 - k) (hk : k < J) : RevTo l ((m.set k (m.getD J (0, 0))).set J (m.getD k (0, 0))) (k + 1) := by
  have hl := h.1
  refine ⟨by simp [hl], fun x hx => ?_⟩
  rw [getD_setH _ _ _ _ _ (by simp [hl]; omega), getD_setH _ _ _ _ _ (by omega)]
  by_cases e1 : x = J
  · rw [if_pos e1, h.2 k (by omega), if_neg (by omega), if_pos (by omega)]
    congr 1; omega
  · rw [if_neg e1]
    by_cases e2 : x = k
    · rw [if_pos e2, h.2 J (by omega), if_neg (by omega), if_pos (by omega)]
      congr 1; omega
    · rw [if_neg e2, h.2 x hx]
      by_cases e3 : x < k ∨ l.length ≤ x + k
      · rw [if_pos e3, if_pos (by omega)]
      · rw [if_neg e3, if_neg (by omega)]
theorem revTo_end {l m : List Hp} {k : Nat} (h : RevTo l m k) (hk : l.length ≤ k + k + 1) : m = l.reverse := by
  apply List.ext_getElem (by simp [h.1])
  intro x h1 h2
  have hx : x < l.length := by rw [← h.1]; exact h1
  have := h.2 x hx
  rw [List.getD_eq_getElem?_getD, List.getElem?_eq_getElem h1, Option.getD_some] at this
  rw [this, List.getElem_reverse]
  have e : ∀ y (hy : y < l.length), l.getD y (0, 0) = l[y] := fun y hy => by rw [List.getD_eq_getElem?_getD, List.getElem?_eq_getElem hy]; rfl
  split
  · exact e _ (by omega)
  · rw [e x hx]
    congr 1
    omega
theorem encs_cons (x : Hp) (l : List Hp) : encs (x :: l) = .int .i64 x.1 :: .int .i64 x.2 :: encs l := by simp [encs, flat]
theorem encs_set : ∀ (m : List Hp) (k : Nat) (q : Hp), k < m.length → ((encs m).set (k * 2) (.int .i64 q.1)).set (k * 2 + 1) (.int .i64 q.2) = encs (m.set k q)
  | [], k, q, h => by simp at h
  | x :: m, 0, q, _ => by
    have e : (x :: m).set 0 q = q :: m := rfl
    rw [e, encs_cons, encs_cons]; rfl
  | x :: m, k + 1, q, h => by
    have ih := encs_set m k q (by simpa using h)
    have e : (x :: m).set (k + 1) q = x :: m.set k q := rfl
    rw [e, encs_cons, encs_cons, ← ih, show (k + 1) * 2 = k * 2 + 1 + 1 from by omega]
    rfl
/-- a row of hops, in memory of the call's own -/
abbrev Ho (w : World) (base gb n cap : Nat) (x : List Hp) : Prop := w.ownsRow base 43 2 (.slice (some ⟨gb, 0, none⟩) n cap) n (encs x)
theorem encs_len (l : List Hp) : (encs l).length = l.length * 2 := by
  induction l with
  | nil => rfl
  | cons x l ih => rw [encs_cons]; simp only [List.length_cons, ih]; omega
theorem Ho.len {w : World} {base gb n cap : Nat} {x : List Hp} (h : Ho w base gb n cap x) : x.length = n := by have := h.1; rw [encs_len] at this; omega
theorem encs_get (l : List Hp) (j : Nat) (h : j < l.length) : (encs l)[j * 2]? = some (.int .i64 (l.getD j (0, 0)).1) ∧ (encs l)[j * 2 + 1]? = some (.int .i64 (l.getD j (0, 0)).2) := by
  induction l generalizing j with
  | nil => simp at h
  | cons c l ih =>
    rw [encs_cons]
    cases j with
    | zero => exact ⟨rfl, rfl⟩
    | succ j =>
      have := ih j (by simpa using h)
      rw [show (j + 1) * 2 = j * 2 + 1 + 1 by omega]
      simpa using this
theorem Ho.one {w : World} {base gb n cap : Nat} {x : List Hp} (h : Ho w base gb n cap x) {k : Nat} (hk : k < n) : w.cell? ⟨gb, k * 2, none⟩ = some (.int .i64 (x.getD k (0, 0)).1) ∧ w.cell? ⟨gb, k * 2 + 1, none⟩ = some (.int .i64 (x.getD k (0, 0)).2) := by
  have hl := h.len
  obtain ⟨f0, f1⟩ := encs_get x k (by omega)
  exact ⟨by rw [World.ownsRow.cellAt h (k * 2) (by omega)]; exact f0, by rw [World.ownsRow.cellAt h (k * 2 + 1) (by omega)]; exact f1⟩
theorem Ho.set {w : World} {base gb n cap : Nat} {x : List Hp} (h : Ho w base gb n cap x) {k : Nat} (hk : k < n) (q : Hp) : Ho ((w.setCell ⟨gb, k * 2, none⟩ (.int .i64 q.1)).setCell ⟨gb, k * 2 + 1, none⟩ (.int .i64 q.2)) base gb n cap (x.set k q) := by
  have hl := h.len
  have h5 := (World.ownsRow.stored ((World.ownsRow.stored h (k * 2) (.int .i64 q.1)).1) (k * 2 + 1) (.int .i64 q.2)).1
  rw [encs_set x k q (by omega)] at h5
  exact h5

set_option maxRecDepth 100000 in
set_option maxHeartbeats 1000000 in
theorem Reverse_any (base gb cap : Nat) (l : List Hp) (w : World) (h : Ho w base gb l.length cap l) (hl : l.length ≤ 4000) :
    Calls Tryd.prog 21 #[.slice (some ⟨gb, 0, none⟩) l.length cap] w fun r w' => (∃ v, r = .returned v) ∧ Ho w' base gb l.length cap l.reverse ∧ Below base w w' := by
  have hbg : base ≤ gb := (World.ownsRow.lt h _ rfl).1
  have hwl : IntKind.i64.wrap ((l.length : Int) - 1) = (l.length : Int) - 1 := wrap_nj _ (by omega) (by omega)
  have HH := hideg h
  clear h
  go_enter Tryd.func21, Tryd.ntmps21
  go_wp2_with fail
  go_loopw [2, 3] (fun i j wr => ∃ (k : Nat) (m : List Hp), k ≤ l.length ∧ i = .int .i64 k ∧ j = .int .i64 ((l.length : Int) - 1 - (k : Int)) ∧ RevTo l m k ∧ Ho wr base gb l.length cap m ∧ Below base w wr) (fun i j _ => (intOf j + 1 - intOf i).toNat)
  case atStart => exact ⟨0, l, Nat.zero_le _, rfl, by simp, revTo_zero l, HH.out, Below.refl _ _⟩
  case round =>
    clear HH hwl
    obtain ⟨k, m, hk, rfl, rfl, hR, hO, hb⟩ := hrel
    have hml := hO.len
    by_cases hkJ : (k : Int) < (l.length : Int) - 1 - (k : Int)
    · obtain ⟨J, hJ⟩ : ∃ J : Nat, J = l.length - 1 - k := ⟨_, rfl⟩
      have hJi : (l.length : Int) - 1 - (k : Int) = (J : Int) := by omega
      have HJn : Hid ((J : Int) - 1 = (l.length : Int) - 1 - ((k + 1 : Nat) : Int)) := by show _ = _; omega
      have hkJn : k < J := by omega
      have hkl : k < l.length := by omega
      have hJl : J < l.length := by omega
      rw [hJi] at hkJ ⊢
      have HR2 := hideg (revTo_step hR hJ hkJn)
      have hO1 := hideg (fun (p q : Hp) => (hO.set hkl p).set hJl q)
      obtain ⟨ck0, ck1⟩ := hO.one hkl
      obtain ⟨cj0, cj1⟩ := hO.one hJl
      have fz := fun j => World.ownsRow.frozenAt hO j
      have hkli : (k : Int) < (l.length : Int) := by omega
      have hJli : (J : Int) < (l.length : Int) := by omega
      have hw1 : IntKind.i64.wrap ((k : Int) + 1) = (k : Int) + 1 := wrap_nj _ (by omega) (by omega)
      have hw2 : IntKind.i64.wrap ((J : Int) - 1) = (J : Int) - 1 := wrap_nj _ (by omega) (by omega)
      generalize m.getD k (0, 0) = P at *
      generalize m.getD J (0, 0) = Q at *
      clear hJ hJi hR
      have hBel : Hid (∀ x y z v, Below base w ((((wr.setCell ⟨gb, k * 2, none⟩ x).setCell ⟨gb, k * 2 + 1, none⟩ y).setCell ⟨gb, J * 2, none⟩ z).setCell ⟨gb, J * 2 + 1, none⟩ v).drew) := fun x y z v => ((((hb.setCell (p := ⟨gb, k * 2, none⟩) hbg x).setCell (p := ⟨gb, k * 2 + 1, none⟩) hbg y).setCell (p := ⟨gb, J * 2, none⟩) hbg z).setCell (p := ⟨gb, J * 2 + 1, none⟩) hbg v).drew
      obtain ⟨p1, p2⟩ := P
      obtain ⟨q1, q2⟩ := Q
      simp only at ck0 ck1 cj0 cj1 HR2
      go_wp2_with fail
      go_region
      have HF : Hid (Ho ((((wr.setCell ⟨gb, k * 2, none⟩ (.int .i64 q1)).setCell ⟨gb, k * 2 + 1, none⟩ (.int .i64 q2)).setCell ⟨gb, J * 2, none⟩ (.int .i64 p1)).setCell ⟨gb, J * 2 + 1, none⟩ (.int .i64 p2)).drew base gb l.length cap ((m.set k (q1, q2)).set J (p1, p2)) ∧ Below base w ((((wr.setCell ⟨gb, k * 2, none⟩ (.int .i64 q1)).setCell ⟨gb, k * 2 + 1, none⟩ (.int .i64 q2)).setCell ⟨gb, J * 2, none⟩ (.int .i64 p1)).setCell ⟨gb, J * 2 + 1, none⟩ (.int .i64 p2)).drew) := ⟨(hO1.out (q1, q2) (p1, p2)).drew, hBel.out _ _ _ _⟩
      clear hO1 hBel hO fz ck0 ck1 cj0 cj1
      generalize ((((wr.setCell ⟨gb, k * 2, none⟩ (.int .i64 q1)).setCell ⟨gb, k * 2 + 1, none⟩ (.int .i64 q2)).setCell ⟨gb, J * 2, none⟩ (.int .i64 p1)).setCell ⟨gb, J * 2 + 1, none⟩ (.int .i64 p2)).drew = w9 at *
      go_wp2
      go_roundw
      case rel => exact ⟨k + 1, _, by omega, by go_num, by rw [← HJn.out], HR2.out, HF.out.1, HF.out.2⟩
      case measure => simp [intOf] <;> omega
    · have hend : l.length ≤ k + k + 1 := by omega
      have HE : Hid (Ho wr base gb l.length cap l.reverse) := by rw [← revTo_end hR hend]; exact hO
      have hnk : ¬ (k : Int) < (l.length : Int) - 1 - (k : Int) := hkJ
      clear hR hO hend
      go_wp2_with fail
      refine bodyPost_end (results_none rfl _ _ _) rfl ⟨⟨_, rfl⟩, HE.out, hb⟩

set_option maxRecDepth 100000 in
theorem Reverse_nil (w : World) : Calls Tryd.prog 21 #[.slice none 0 0] w fun r w' => (∃ v, r = .returned v) ∧ w' = w := by
  go_enter Tryd.func21, Tryd.ntmps21
  go_wp2_with fail
  go_loopw [2, 3] (fun i j wr => i = .int .i64 0 ∧ j = .int .i64 (-1) ∧ wr = w) (fun i j _ => (intOf j + 1 - intOf i).toNat)
  case atStart => exact ⟨rfl, by simp, rfl⟩
  case round =>
    obtain ⟨rfl, rfl, rfl⟩ := hrel
    go_wp2_with fail
    refine bodyPost_end (results_none rfl _ _ _) rfl ⟨⟨_, rfl⟩, rfl⟩

end Go.Proofs.YtkgbgkcbflicmaiDoor

namespace Go.Proofs.YtkgbgkcbflicmaiDoor
open Go.RowKit

theorem Tryd.infoHopE : (Tryd.prog.info? 43).map (fun i => (i.zero, i.size, i.bytes)) = some (some (.agg #[.int .i64 0, .int .i64 0]), 2, 16) := by kernel_rfl
/-- the way back from a vertex, along the last rides: hop by hop -/
def trF (L : List Ri) (v : Int) : Nat → Int → List Hp
  | 0, _ => []
  | f + 1, x => if x = v then [] else ((L.getD x.toNat (0, 0, 0, 0, 0, 0)).1, (L.getD x.toNat (0, 0, 0, 0, 0, 0)).2.1) :: trF L v f (L.getD x.toNat (0, 0, 0, 0, 0, 0)).2.2.1
theorem trF_at (L : List Ri) (v : Int) (f : Nat) : trF L v f v = [] := by cases f <;> simp [trF]
theorem trF_step (L : List Ri) {v x : Int} (f : Nat) (h : x ≠ v) : trF L v (f + 1) x = ((L.getD x.toNat (0, 0, 0, 0, 0, 0)).1, (L.getD x.toNat (0, 0, 0, 0, 0, 0)).2.1) :: trF L v f (L.getD x.toNat (0, 0, 0, 0, 0, 0)).2.2.1 := by rw [trF, if_neg h]
/-- what Way tells -/
def WayIs (g : Gr) (v t q e : Int) (l : List Hp) : Prop :=
  (placeE g v t ≠ 0 ∧ e = placeE g v t ∧ l = []) ∨
  (placeE g v t = 0 ∧ (¬ (0 ≤ q ∧ q < g.lives.length) ∨ (erF g v t).1.getD q.toNat 0 = 1099511627776) ∧ e = 4 ∧ l = []) ∨
  (placeE g v t = 0 ∧ (0 ≤ q ∧ q < g.lives.length) ∧ (erF g v t).1.getD q.toNat 0 ≠ 1099511627776 ∧ e = 0 ∧ WayTo g (erF g v t).1 v q l ∧ l = (trF (erF g v t).2 v 300 q).reverse)

set_option maxRecDepth 100000 in
set_option maxHeartbeats 400000 in
theorem eWay_any (g : Gr) (la ea : Option Addr) (lc ec : Nat) (v t q : Int) (w : World) (hG : GAt w la ea g) :
    Calls Tryd.prog 11 #[.agg #[.int .i64 g.hor, .slice la g.lives.length lc, .slice ea g.edges.length ec], .int .i64 v, .int .i64 t, .int .i64 q] w fun r w' => ∃ u e l, r = .returned (.tuple #[u, .int .i64 e]) ∧ WayIs g v t q e l ∧ w'.ownsRow w.heap.size 43 2 u l.length (encs l) ∧ Below w.heap.size w w' := by
  obtain ⟨i0, hi, hz0, hz1, hz2⟩ := info_parts Tryd.infoHopE
  have B0 := gbx_start w g la ea lc ec 25
  have h1 := jcheck_any g la ea lc ec v t _ (hG.below B0.bel)
  by_cases e1 : placeE g v t = 0
  case neg =>
    have HP : Hid (WayIs g v t q (placeE g v t) []) := .inl ⟨e1, rfl, rfl⟩
    have d1 : (placeE g v t != 0) = true := by simpa using e1
    generalize placeE g v t = n at *
    clear e1 hG
    go_enter Tryd.func11, Tryd.ntmps11
    go_wp2_with fail
    refine h1.mono ?_
    rintro r w1 ⟨rfl, hb1⟩
    have hbF := (B0.below hb1).bel
    clear h1 hb1 B0
    go_wp2
    (try simp only [Exit.inBlock, Exit.then]); refine bodyPost_ret (results_two_e rfl _ _ _) rfl ?_
    exact ⟨_, _, _, rfl, HP.out, World.ownsRow_nil _ _ _ _, hbF⟩
  have HP2 : Hid ((¬ (0 ≤ q ∧ q < g.lives.length) ∨ (erF g v t).1.getD q.toNat 0 = 1099511627776) → WayIs g v t q 4 []) := fun h => .inr (.inl ⟨e1, h, rfl, rfl⟩)
  have HP3 : Hid ((0 ≤ q ∧ q < g.lives.length) → (erF g v t).1.getD q.toNat 0 ≠ 1099511627776 → ∀ l, WayTo g (erF g v t).1 v q l → l = (trF (erF g v t).2 v 300 q).reverse → WayIs g v t q 0 l) := fun h1 h2 l h h' => .inr (.inr ⟨e1, h1, h2, rfl, h, h'⟩)
  have h2 := fun W (hb : Below w.heap.size w W) => earliest_any g la ea lc ec v t W (hG.below hb) e1
  obtain ⟨hg0, ⟨hv0, hv1⟩, ht0, ht1⟩ := placeE_zero e1
  have hR := gChk_right hg0
  have hn12 := hR.lvs
  have hhor := hR.hor
  have HEr : Hid (aliveB t g.lives v = true → ErOk g v t (erF g v t)) := fun ha => (erF_ok hR hv0 ha).1
  have HAw : Hid (¬ aliveB t g.lives v = true → (erF g v t).1 = List.replicate g.lives.length 1099511627776) := fun ha => erF_away ha
  rw [e1] at h1
  have HRt := hideg hR
  clear hG e1 hg0 hR
  have hq3 : q < 0 ∨ (¬ q < 0 ∧ (g.lives.length : Int) ≤ q) ∨ (¬ q < 0 ∧ ¬ (g.lives.length : Int) ≤ q) := by omega
  rcases hq3 with q1 | ⟨q1, q2⟩ | ⟨q1, q2⟩
  · have HW := hideg (HP2.out (.inl (by omega)))
    clear HP2 HP3 h2 HEr HAw
    go_enter Tryd.func11, Tryd.ntmps11
    go_wp2_with fail
    refine h1.mono ?_
    rintro r w1 ⟨rfl, hb1⟩
    have B1 := B0.below hb1
    have g1 := B1.c1
    have hbF := B1.bel
    clear h1 hb1 B0 B1
    go_wp2
    (try simp only [Exit.inBlock, Exit.then]); refine bodyPost_ret (results_two_e rfl _ _ _) rfl ?_
    exact ⟨_, _, _, rfl, HW.out, World.ownsRow_nil _ _ _ _, hbF⟩
  · have HW := hideg (HP2.out (.inl (by omega)))
    clear HP2 HP3 h2 HEr HAw
    go_enter Tryd.func11, Tryd.ntmps11
    go_wp2_with fail
    refine h1.mono ?_
    rintro r w1 ⟨rfl, hb1⟩
    have B1 := B0.below hb1
    have g1 := B1.c1
    have hbF := B1.bel
    clear h1 hb1 B0 B1
    go_wp2
    (try simp only [Exit.inBlock, Exit.then]); refine bodyPost_ret (results_two_e rfl _ _ _) rfl ?_
    exact ⟨_, _, _, rfl, HW.out, World.ownsRow_nil _ _ _ _, hbF⟩
  obtain ⟨Y, rfl⟩ : ∃ Y : Nat, q = (Y : Int) := ⟨q.toNat, by omega⟩
  have hY : Y < g.lives.length := by omega
  have hlT := (erF_len g v t).1
  have hlL := (erF_len g v t).2
  simp only [Int.toNat_natCast] at HP2 HP3
  obtain ⟨T, hT⟩ : ∃ T, T = (erF g v t).1 := ⟨_, rfl⟩
  obtain ⟨L, hL⟩ : ∃ L, L = (erF g v t).2 := ⟨_, rfl⟩
  have hTL : erF g v t = (T, L) := by rw [hT, hL]
  rw [← hT] at h2 HP2 HP3 HAw hlT
  rw [← hL] at h2 hlL HP3
  rw [hTL] at HEr
  clear hT hL hTL
  obtain ⟨y, hy⟩ : ∃ y, y = T.getD Y 0 := ⟨_, rfl⟩
  rw [← hy] at HP2 HP3
  by_cases e2 : y = 1099511627776
  · have HW := hideg (HP2.out (.inr e2))
    subst e2
    clear HP2 HP3 HEr HAw
    go_enter Tryd.func11, Tryd.ntmps11
    go_wp2_with fail
    refine h1.mono ?_
    rintro r w1 ⟨rfl, hb1⟩
    have B1 := B0.below hb1
    have g0 := B1.c0
    have g1 := B1.c1
    have g2 := B1.c2
    have hbx := B1.bel
    clear h1 hb1 B0
    go_wp2_with fail
    refine (h2 _ hbx).mono ?_
    rintro r w2 ⟨m1, m2, rfl, hZ, _, hb2⟩
    have cY := hZ.cell hY
    rw [← hy] at cY
    have hbF := ptg hbx hb2
    clear h2 hZ hb2 g0 g1 g2 hbx B1 hy
    go_wp2
    (try simp only [Exit.inBlock, Exit.then]); refine bodyPost_ret (results_two_e rfl _ _ _) rfl ?_
    exact ⟨_, _, _, rfl, HW.out, World.ownsRow_nil _ _ _ _, hbF⟩
  have d2 : (y == 1099511627776) = false := by simpa using e2
  have hal : aliveB t g.lives v = true := by
    refine Classical.byContradiction fun h => e2 ?_
    rw [hy, HAw.out h, rep_getD _ _ _ hY]
  have HE := hideg (HEr.out hal)
  have HW := hideg (HP3.out ⟨by omega, by omega⟩ e2)
  have HY : Hid (T.getD Y 0 ≠ 1099511627776) := by rw [← hy]; exact e2
  clear HP2 HP3 HEr HAw hal e2
  obtain ⟨V, rfl⟩ : ∃ V : Nat, v = (V : Int) := ⟨v.toNat, by omega⟩
  go_enter Tryd.func11, Tryd.ntmps11
  go_wp2_with fail
  refine h1.mono ?_
  rintro r w1 ⟨rfl, hb1⟩
  have B1 := B0.below hb1
  have g0 := B1.c0
  have g1 := B1.c1
  have g2 := B1.c2
  have hbx := B1.bel
  clear h1 hb1 B0
  go_wp2_with fail
  refine (h2 _ hbx).mono ?_
  rintro r w2 ⟨m1, m2, rfl, hZ, hLr, hb2⟩
  have cY := hZ.cell hY
  rw [← hy] at cY
  have HbF := hideg (ptg hbx hb2)
  have HLr := hideg hLr
  have HS1 := hideg hbx.size
  clear h2 hZ hb2 g0 g1 g2 hbx B1 hy hLr hlT hlL
  go_wp2_with fail
  go_loopw [13, 14] (fun u x wr => ∃ (X : Nat) (l : List Hp), X < g.lives.length ∧ x = .int .i64 X ∧ T.getD X 0 ≠ 1099511627776 ∧ WayTo g T X Y l.reverse ∧ (∀ f, trF L (V : Int) (f + l.length) (Y : Int) = l ++ trF L (V : Int) f (X : Int)) ∧ wr.ownsRow w2.heap.size 43 2 u l.length (encs l) ∧ Below w2.heap.size w2 wr) (fun _ x _ => (T.getD (intOf x).toNat 0).toNat)
  case atStart => exact ⟨Y, [], hY, rfl, HY.out, wayTo_nil g T Y, fun f => rfl, World.ownsRow_nil _ _ _ _, Below.refl _ _⟩
  case round =>
    clear cY d2
    obtain ⟨X, l, hX, rfl, hXi, hW, hTr, hown, hb⟩ := hrel
    have HTr := hideg hTr
    clear hTr
    have hTx : 0 ≤ T.getD X 0 ∧ T.getD X 0 < g.hor := by
      rcases HE.out.is X hX with e | e
      · exact absurd e hXi
      · have := e.place HRt.out (by omega); exact this.2.2
    have hTy : T.getD Y 0 < g.hor := by
      rcases HE.out.is Y hY with e | e
      · exact absurd e HY.out
      · have := e.place HRt.out (by omega); exact this.2.2.2
    have hll : l.length ≤ 200 := by
      have := hW.len
      simp only [Int.toNat_natCast, List.length_reverse] at this
      omega
    by_cases hXV : X = V
    · subst hXV
      have HWl := hideg (HW.out _ hW (by
        have h9 := HTr.out (300 - l.length)
        rw [trF_at, List.append_nil, show 300 - l.length + l.length = 300 by omega] at h9
        rw [h9]))
      have hbF : Below w.heap.size w wr := HbF.out.trans (hb.mono HbF.out.size)
      clear hW hXi hTx hTy
      rcases hown.2 with ⟨hu, h0⟩ | ⟨gb, cap, cur, hu, hgb, hh, h3, h4, h5, h6⟩
      · have hl0 : l = [] := List.eq_nil_of_length_eq_zero h0
        subst hl0
        subst hu
        have hRv := fun W => Reverse_nil W
        clear hown h0
        go_wp2_with fail
        refine (hRv _).mono ?_
        rintro r w5 ⟨⟨vv, rfl⟩, rfl⟩
        clear hRv
        go_wp2
        (try simp only [Exit.inBlock, Exit.then]); refine bodyPost_ret (results_two_e rfl _ _ _) rfl ?_
        exact ⟨_, _, _, rfl, HWl.out, World.ownsRow_nil _ _ _ _, hbF⟩
      · subst hu
        have hRv := Reverse_any w2.heap.size gb cap l wr hown (by omega)
        clear hown hh h6 h5 h3 h4 hgb
        go_wp2_with fail
        refine hRv.mono ?_
        rintro r w5 ⟨⟨vv, rfl⟩, hO5, hb5⟩
        have HO5 : Hid (w5.ownsRow w.heap.size 43 2 (.slice (some ⟨gb, 0, none⟩) l.length cap) l.reverse.length (encs l.reverse)) := by
          rw [List.length_reverse]; exact owns_base2 hO5 HbF.out.size
        have HB5 := hideg (HbF.out.trans ((hb.trans hb5).mono HbF.out.size))
        clear hRv hO5 hb5
        go_wp2
        (try simp only [Exit.inBlock, Exit.then]); refine bodyPost_ret (results_two_e rfl _ _ _) rfl ?_
        exact ⟨_, _, _, rfl, HWl.out, HO5.out, HB5.out⟩
    · have hXVi : ((X : Int) != (V : Int)) = true := by simp; omega
      obtain ⟨rOk, rTo, rAr, rFr⟩ := HE.out.way X hX hXi (by omega)
      simp only at rOk rTo rAr rFr
      have hLx := (HLr.out.one hX)
      unfold ri0 at hLx
      have HTs := hideg (fun f => trF_step L (v := (V : Int)) (x := (X : Int)) f (by omega))
      simp only [Int.toNat_natCast] at HTs
      generalize L.getD X (0, 0, 0, 0, 0, 0) = rr at *
      obtain ⟨E, d, a, b, ar, c⟩ := rr
      simp only at rTo rAr rFr
      have ha0 := rOk.a0
      simp only at ha0
      obtain ⟨A, rfl⟩ : ∃ A : Nat, a = (A : Int) := ⟨a.toNat, by omega⟩
      have hA : A < g.lives.length := by omega
      obtain ⟨hW2, hlt⟩ := hW.cons rOk rTo (by simpa using rAr) (by simpa using rFr)
      simp only [Int.toNat_natCast] at hlt hW2
      have HW2 : Hid (WayTo g T (A : Int) (Y : Int) (l ++ [(E, d)]).reverse) := by rw [List.reverse_append]; exact hW2
      have hAi : T.getD A 0 ≠ 1099511627776 := by omega
      have HTr2 : Hid (∀ f, trF L (V : Int) (f + (l ++ [(E, d)]).length) (Y : Int) = (l ++ [(E, d)]) ++ trF L (V : Int) f (A : Int)) := fun f => by
        have h9 := HTr.out (f + 1)
        have h10 := HTs.out f
        simp only at h10
        rw [h10] at h9
        rw [List.length_append, List.length_singleton, show f + (l.length + 1) = f + 1 + l.length by omega, h9, List.append_assoc]
        rfl
      clear HTs HTr
      have hTA : 0 ≤ T.getD A 0 := by
        rcases HE.out.is A hA with e | e
        · exact absurd e hAi
        · have := e.place HRt.out (by omega); exact this.2.2.1
      have hm2 := (World.ownsRow.lt HLr.out _ rfl).2
      have L5 := hLx.below hm2 hb
      have c0 := L5.c0
      have c1 := L5.c1
      have c2 := L5.c2
      simp only at c0 c1 c2
      have hXi2 : (X : Int) < (g.lives.length : Int) := by omega
      have hXn : (X : Int) ≠ (V : Int) := by omega
      have HBg : Hid (∀ (o : Obj) (w5 : World), (wr.alloc o).grownBy w5 u13.ownBlock → Below w2.heap.size w2 w5) := fun o w5 hgr => (hb.alloc hb.size o).grown hgr (by have := hb.size; simp at this ⊢; omega) (fun k hk => (hown.lt k hk).1)
      have HC : Hid (∀ w5, Below w2.heap.size w2 w5 → w5.cell? ⟨m2, X * 6 + 2, none⟩ = some (.int .i64 (A : Int))) := fun w5 h => (hLx.below hm2 h).c2
      have hs2 := hb.size
      have HT : Hid ((T.getD A 0).toNat < (T.getD X 0).toNat) := by show _ < _; omega
      clear hLx L5 rOk rTo rAr rFr hW hW2 hTy HE
      go_wp2_with (at_builtin; refine stopHereR ?_)
      refine hideg ?_
      refine wpList_append_own _ rfl _ _ 38 rfl w2.heap.size 43 i0 _ 2 16 Tryd.underlying38 hi hz0 hz1 hz2 rfl (by decide) _ _ _ rfl (World.ownsRow.alloc (w := wr) hown _) ⟨wr.heap.size, 0, none⟩ 1 1 [.int .i64 E, .int .i64 d] rfl rfl (cells_two_new _ _ _ _ _ (by simp)) (by intro u hu; simp at hu; rcases hu with rfl | rfl <;> rfl) (by unfold maxLen; omega) (by omega) (by simp; omega) ?_
      intro v' w5 hown5 hgrow _
      have hb' := HBg.out _ _ hgrow
      have c2' := HC.out _ hb'
      have R5 : w5.ownsRow w2.heap.size 43 2 v' (l ++ [(E, d)]).length (encs (l ++ [(E, d)])) := by
        rw [show encs (l ++ [(E, d)]) = encs l ++ [.int .i64 E, .int .i64 d] from by simp [encs, flat], List.length_append]; exact hown5
      have HR5 := hideg R5
      clear hgrow hown5 c0 c1 c2 HBg HC R5
      go_wp2
      go_roundw
      case rel => exact ⟨A, _, hA, rfl, hAi, HW2.out, HTr2.out, HR5.out, hb'⟩
      case measure => simpa [intOf] using HT.out

end Go.Proofs.YtkgbgkcbflicmaiDoor

namespace Go.Proofs.YtkgbgkcbflicmaiDoor
open Go.RowKit

theorem take_succI (l : List Int) (k : Nat) (h : k < l.length) : l.take (k + 1) = l.take k ++ [l[k]] := List.take_succ_eq_append_getElem h

set_option maxHeartbeats 2000000 in
theorem EqualI_any (ao bo : Option Addr) (ca cb : Nat) (a b : List Int) (w : World) (hA : ZsAt w ao a) (hB : ZsAt w bo b) (hl : a.length ≤ 9223372036854775807) :
    Calls Tryd.prog 8 #[.slice ao a.length ca, .slice bo b.length cb] w fun e w' => e = .returned (.bool (decide (a = b))) ∧ Below w.heap.size w w' := by
  by_cases hlen : a.length = b.length
  · have HLN : Hid (a.length = b.length) := hlen
    rw [← hlen]
    have hne : ((a.length : Int) != (a.length : Int)) = false := by simp
    clear hlen
    go_enter Tryd.func8, Tryd.ntmps8
    go_wp2
    go_loopw [5, 13] (fun _ i wr => ∃ k : Nat, k ≤ a.length ∧ i = .int .i64 k ∧ a.take k = b.take k ∧ Below w.heap.size w wr) (fun _ i _ => a.length - (intOf i).toNat)
    case atStart => exact ⟨0, Nat.zero_le _, rfl, rfl, Below.refl _ _⟩
    case round =>
      obtain ⟨k, hk, rfl, hh, hb⟩ := hrel
      have HH : Hid (a.take k = b.take k) := hh
      clear hh
      by_cases hlt : k < a.length
      · have hlt' : k < b.length := by have := HLN.out; omega
        rcases hA.below hb with h0 | ⟨b1, o1, rfl, hb1, hc1⟩
        · subst h0; simp at hlt
        rcases hB.below hb with h0 | ⟨b2, o2, rfl, hb2, hc2⟩
        · subst h0; simp at hlt'
        have c0 := hc1 k hlt
        have d0 := hc2 k hlt'
        rw [List.getD_eq_getElem?_getD, List.getElem?_eq_getElem hlt, Option.getD_some] at c0
        rw [List.getD_eq_getElem?_getD, List.getElem?_eq_getElem hlt', Option.getD_some] at d0
        clear hc1 hc2 hA hB
        by_cases g : a[k] = b[k]
        · have HC : Hid (a.take (k + 1) = b.take (k + 1)) := by show _ = _; rw [take_succI a k hlt, take_succI b k hlt', HH.out, g]
          have e1 : (a[k] != b[k]) = false := by simpa using g
          clear g
          go_wp2
          go_quiet (fail)
          go_wp2
          go_roundw
          case rel => exact ⟨k + 1, by omega, by go_num, HC.out, below_drewN hb _⟩
          case measure => simp [intOf]; omega
        · have HC : Hid (decide (a = b) = false) := by
            show _ = _
            rw [decide_eq_false_iff_not]
            intro h; subst h; exact g rfl
          have e1 : (a[k] != b[k]) = true := by simpa using g
          clear g
          go_wp2
          go_quiet (fail)
          go_wp2
          go_ret
          exact ⟨retp_bool HC.out.symm, below_drewN hb _⟩
      · have hkl : k = a.length := by omega
        have HC : Hid (decide (a = b) = true) := by
          show _ = _
          have := HH.out
          rw [hkl, List.take_length, HLN.out, List.take_length] at this
          rw [this]; simp
        go_wp2
        go_ret
        exact ⟨retp_bool HC.out.symm, hb⟩
  · have hne : ((a.length : Int) != (b.length : Int)) = true := by simp; omega
    have HC : Hid (decide (a = b) = false) := by
      show _ = _
      rw [decide_eq_false_iff_not]
      intro h; subst h; exact hlen rfl
    clear hlen
    go_enter Tryd.func8, Tryd.ntmps8
    go_wp2
    go_ret
    exact ⟨retp_bool HC.out.symm, Below.refl _ _⟩

end Go.Proofs.YtkgbgkcbflicmaiDoor

namespace Go.Proofs.YtkgbgkcbflicmaiDoor
open Go.RowKit

theorem neq_hop (x y : Int × Int) (w : World) : (binOp .neq 43 (.agg #[.int .i64 x.1, .int .i64 x.2]) (.agg #[.int .i64 y.1, .int .i64 y.2])).run Tryd.prog w = .ok (.bool (!(x.1 == y.1 && x.2 == y.2))) w := by
  have u3 := Tryd.underlying3
  have a3 := Tryd.isAgg3
  have z3 := Tryd.sizeOf3
  have hS : Tryd.prog.underlying 43 = some (.struct (Tryd.prog.fieldsOf 43)) := by kernel_rfl
  have hp : Tryd.prog.stoodInHeld 43 = false := by kernel_rfl
  rw [run_neq_struct, show (10000 : Nat) = 9999 + 1 from rfl, run_equalIn_agg w 9999 43 _ _ hS hp]
  simp only [Program.fieldsOf, Tryd.underlying43]
  go_simp
  by_cases h1 : x.fst = y.fst <;> by_cases h2 : x.snd = y.snd <;> simp [h1, h2]

set_option maxHeartbeats 2000000 in
theorem EqualHop_any (ao bo : Option Addr) (ca cb : Nat) (a b : List (Int × Int)) (w : World) (hA : IvAt w ao a) (hB : IvAt w bo b) (hl : a.length ≤ 9223372036854775807) :
    Calls Tryd.prog 12 #[.slice ao a.length ca, .slice bo b.length cb] w fun e w' => e = .returned (.bool (decide (a = b))) ∧ Below w.heap.size w w' := by
  by_cases hlen : a.length = b.length
  · have hm : Tryd.prog.eqGuardType Tryd.prog.depth 43 = false := by kernel_rfl
    have HLN : Hid (a.length = b.length) := hlen
    rw [← hlen]
    have hne : ((a.length : Int) != (a.length : Int)) = false := by simp
    clear hlen
    go_enter Tryd.func12, Tryd.ntmps12
    go_wp2
    go_loopw [5, 13] (fun _ i wr => ∃ k : Nat, k ≤ a.length ∧ i = .int .i64 k ∧ a.take k = b.take k ∧ Below w.heap.size w wr) (fun _ i _ => a.length - (intOf i).toNat)
    case atStart => exact ⟨0, Nat.zero_le _, rfl, rfl, Below.refl _ _⟩
    case round =>
      obtain ⟨k, hk, rfl, hh, hb⟩ := hrel
      have HH : Hid (a.take k = b.take k) := hh
      clear hh
      by_cases hlt : k < a.length
      · have hlt' : k < b.length := by have := HLN.out; omega
        rcases hA.below hb with h0 | ⟨b1, o1, rfl, hb1, hc1⟩
        · subst h0; simp at hlt
        rcases hB.below hb with h0 | ⟨b2, o2, rfl, hb2, hc2⟩
        · subst h0; simp at hlt'
        obtain ⟨c0, c1⟩ := hc1 k hlt
        obtain ⟨d0, d1⟩ := hc2 k hlt'
        have nq := neq_hop a[k] b[k]
        clear hc1 hc2 hA hB
        by_cases g : a[k] = b[k]
        · have e1 : (a[k].1 == b[k].1) = true := by rw [g]; simp
          have e2 : (a[k].2 == b[k].2) = true := by rw [g]; simp
          have HC : Hid (a.take (k + 1) = b.take (k + 1)) := by show _ = _; rw [take_succ_get a k hlt, take_succ_get b k hlt', HH.out, g]
          rw [e1, e2] at nq
          clear g e1 e2
          go_wp2
          go_quiet (fail)
          go_wp2
          go_roundw
          case rel => exact ⟨k + 1, by omega, by go_num, HC.out, below_drewN hb _⟩
          case measure => simp [intOf]; omega
        · have e1 : (a[k].1 == b[k].1 && a[k].2 == b[k].2) = false := by
            rw [Bool.and_eq_false_iff]
            by_cases h : a[k].1 = b[k].1
            · right; rw [beq_eq_false_iff_ne]; exact fun h' => g (Prod.ext h h')
            · left; rw [beq_eq_false_iff_ne]; exact h
          have HC : Hid (decide (a = b) = false) := by
            show _ = _
            rw [decide_eq_false_iff_not]
            intro h; subst h; exact g rfl
          rw [e1] at nq
          clear g e1
          go_wp2
          go_quiet (fail)
          go_wp2
          go_ret
          exact ⟨ret_bool HC.out.symm, below_drewN hb _⟩
      · have hkl : k = a.length := by omega
        have HC : Hid (decide (a = b) = true) := by
          show _ = _
          have := HH.out
          rw [hkl, List.take_length, HLN.out, List.take_length] at this
          rw [this]; simp
        go_wp2
        go_ret
        exact ⟨ret_bool HC.out.symm, hb⟩
  · have hne : ((a.length : Int) != (b.length : Int)) = true := by simp; omega
    have HC : Hid (decide (a = b) = false) := by
      show _ = _
      rw [decide_eq_false_iff_not]
      intro h; subst h; exact hlen rfl
    clear hlen
    go_enter Tryd.func12, Tryd.ntmps12
    go_wp2
    go_ret
    exact ⟨ret_bool HC.out.symm, Below.refl _ _⟩

end Go.Proofs.YtkgbgkcbflicmaiDoor

namespace Go.Proofs.YtkgbgkcbflicmaiDoor

theorem fastE_chk {g : Gr} {v q d a e : Int} (h : FastE g v q d a e) (h0 : gChk g ≠ 0) : d = 0 ∧ a = 0 ∧ e = gChk g := by
  rcases h with ⟨_, h1, h2, h3⟩ | ⟨h1, _⟩ | ⟨h1, _⟩
  · exact ⟨h2, h3, h1⟩
  · exact absurd h1 h0
  · exact absurd h1 h0
theorem fastE_out {g : Gr} {v q d a e : Int} (h : FastE g v q d a e) (h0 : gChk g = 0) (hn : ¬ ((0 ≤ v ∧ v < (g.lives.length : Int)) ∧ 0 ≤ q ∧ q < (g.lives.length : Int))) : d = 0 ∧ a = 0 ∧ e = 4 := by
  rcases h with ⟨h1, _⟩ | ⟨_, _, h1, h2, h3⟩ | ⟨_, h1, _⟩
  · exact absurd h0 h1
  · exact ⟨h2, h3, h1⟩
  · exact absurd h1 hn
theorem fastE_in {g : Gr} {v q d a e : Int} (h : FastE g v q d a e) (h0 : gChk g = 0) (hn : (0 ≤ v ∧ v < (g.lives.length : Int)) ∧ 0 ≤ q ∧ q < (g.lives.length : Int)) : FastIs g v q d a e := by
  rcases h with ⟨h1, _⟩ | ⟨_, h1, _⟩ | ⟨_, _, h1⟩
  · exact absurd h0 h1
  · exact absurd hn h1
  · exact h1
theorem leastE_ok {g : Gr} {pr : Ri → Int} {v t : Int} {L : List Int} (h : LeastE g pr v t L) (h0 : placeE g v t = 0) : LeastIs g pr v t L := by
  rcases h with ⟨h1, _⟩ | ⟨_, h1⟩
  · exact absurd h0 h1
  · exact h1
theorem leastE_bad {g : Gr} {pr : Ri → Int} {v t : Int} {L : List Int} (h : LeastE g pr v t L) (h0 : placeE g v t ≠ 0) : L = [] := by
  rcases h with ⟨_, h1⟩ | ⟨h1, _⟩
  · exact h1
  · exact absurd h1 h0


end Go.Proofs.YtkgbgkcbflicmaiDoor

namespace Go.Proofs.YtkgbgkcbflicmaiDoor
open Go.RowKit

/-- three vertices, two edges -/
def gLine : Gr := ⟨12, [(0, 12), (0, 12), (1, 12)], [(0, 1, [(0, 3, 2, 5), (3, 6, 1, 1)]), (1, 2, [(4, 5, 3, 2)])]⟩

theorem line_chk : gChk gLine = 0 := by decide +kernel
theorem line_p0 : placeE gLine 0 0 = 0 := by decide +kernel
theorem line_arr : arrA gLine 0 0 = [0, 2, 7] := by decide +kernel
theorem line_way : (erF gLine 0 0).1.getD 2 0 ≠ 1099511627776 ∧ (trF (erF gLine 0 0).2 0 300 2).reverse = [(0, 0), (1, 4)] := by decide +kernel
theorem line_wayIs {e : Int} {l : List Hp} (h : WayIs gLine 0 0 2 e l) : e = 0 ∧ l = [(0, 0), (1, 4)] := by
  rcases h with ⟨h1, _⟩ | ⟨_, h1, _⟩ | ⟨_, _, _, h1, _, h2⟩
  · exact absurd line_p0 h1
  · rcases h1 with h1 | h1
    · exact absurd ⟨by omega, by decide⟩ h1
    · exact absurd h1 line_way.1
  · exact ⟨h1, by rw [h2]; exact line_way.2⟩
theorem line_least : LeastIs gLine prCost 0 0 [0, 1, 3] := by
  have ha : aliveB 0 gLine.lives 0 = true := by decide
  have hb : Pay gLine prCost 0 0 0 0 0 := ⟨ha, .base (by unfold F1; rw [if_pos ⟨rfl, rfl⟩])⟩
  have h3 : Pay gLine prCost 0 0 0 (0 + 1 + 1 + 1) 0 := ⟨ha, .wait (.wait (.wait hb.2 (by decide)) (by decide)) (by decide)⟩
  have hm1 : ((0 : Int), (3 : Int), (0 : Int), (1 : Int), (4 : Int), (1 : Int)) ∈ ridesF gLine := by decide +kernel
  have hm2 : ((1 : Int), (4 : Int), (1 : Int), (2 : Int), (7 : Int), (2 : Int)) ∈ ridesF gLine := by decide +kernel
  have h4 : Pay gLine prCost 0 0 1 4 1 := ⟨ha, Pd.ride hm1 h3.2⟩
  have h7 : Pay gLine prCost 0 0 2 7 3 := ⟨ha, Pd.ride hm2 h4.2⟩
  have hr : ∀ r ∈ ridesF gLine, (if r.2.2.2.1 = 1 then (1 : Int) else if r.2.2.2.1 = 2 then 3 else 0) ≤ (if r.2.2.1 = 1 then (1 : Int) else if r.2.2.1 = 2 then 3 else 0) + prCost r := by decide +kernel
  refine ⟨rfl, fun x hx => ?_, fun x hx t p hp => ?_⟩
  · have hx' : x = 0 ∨ x = 1 ∨ x = 2 := by simp [gLine] at hx; omega
    rcases hx' with rfl | rfl | rfl
    · exact .inr ⟨0, hb⟩
    · exact .inr ⟨4, h4⟩
    · exact .inr ⟨7, h7⟩
  · have hx' : x = 0 ∨ x = 1 ∨ x = 2 := by simp [gLine] at hx; omega
    have := pay_bound (b := fun x => if x = 1 then (1 : Int) else if x = 2 then 3 else 0) (by decide) hr hp
    rcases hx' with rfl | rfl | rfl
    · simpa using this
    · simpa using this
    · simpa using this
theorem line_costs {L : List Int} (h : LeastE gLine prCost 0 0 L) : L = [0, 1, 3] := least_unique (gChk_right line_chk) (prCost_ok (gChk_right line_chk)) (by omega) (leastE_ok h line_p0) line_least

theorem line_at (w : World) (o : Obj) (T1 T2 T3 T4 : TypeId) : GAt (((((w.alloc o).alloc (.cells #[.int .i64 0, .int .i64 12, .int .i64 0, .int .i64 12, .int .i64 1, .int .i64 12] T1)).alloc (.cells #[.int .i64 0, .int .i64 3, .int .i64 2, .int .i64 5, .int .i64 3, .int .i64 6, .int .i64 1, .int .i64 1] T2)).alloc (.cells #[.int .i64 4, .int .i64 5, .int .i64 3, .int .i64 2] T3)).alloc (.cells #[.int .i64 0, .int .i64 1, .slice (some ⟨w.heap.size + 1 + 1, 0, none⟩) 2 2, .int .i64 1, .int .i64 2, .slice (some ⟨w.heap.size + 1 + 1 + 1, 0, none⟩) 1 1] T4)) (some ⟨w.heap.size + 1, 0, none⟩) (some ⟨w.heap.size + 1 + 1 + 1 + 1, 0, none⟩) gLine := by
  have q1 : ∀ j x, #[Value.int .i64 0, .int .i64 12, .int .i64 0, .int .i64 12, .int .i64 1, .int .i64 12][j]? = some x → (((((w.alloc o).alloc (.cells #[.int .i64 0, .int .i64 12, .int .i64 0, .int .i64 12, .int .i64 1, .int .i64 12] T1)).alloc (.cells #[.int .i64 0, .int .i64 3, .int .i64 2, .int .i64 5, .int .i64 3, .int .i64 6, .int .i64 1, .int .i64 1] T2)).alloc (.cells #[.int .i64 4, .int .i64 5, .int .i64 3, .int .i64 2] T3)).alloc (.cells #[.int .i64 0, .int .i64 1, .slice (some ⟨w.heap.size + 1 + 1, 0, none⟩) 2 2, .int .i64 1, .int .i64 2, .slice (some ⟨w.heap.size + 1 + 1 + 1, 0, none⟩) 1 1] T4)).cell? ⟨w.heap.size + 1, j, none⟩ = some x := by
    intro j x hx
    rw [(gal _ _).cell (by simp <;> omega), (gal _ _).cell (by simp <;> omega), (gal _ _).cell (by simp <;> omega)]
    exact new_cell (by simp) hx
  have q2 : ∀ j x, #[Value.int .i64 0, .int .i64 3, .int .i64 2, .int .i64 5, .int .i64 3, .int .i64 6, .int .i64 1, .int .i64 1][j]? = some x → (((((w.alloc o).alloc (.cells #[.int .i64 0, .int .i64 12, .int .i64 0, .int .i64 12, .int .i64 1, .int .i64 12] T1)).alloc (.cells #[.int .i64 0, .int .i64 3, .int .i64 2, .int .i64 5, .int .i64 3, .int .i64 6, .int .i64 1, .int .i64 1] T2)).alloc (.cells #[.int .i64 4, .int .i64 5, .int .i64 3, .int .i64 2] T3)).alloc (.cells #[.int .i64 0, .int .i64 1, .slice (some ⟨w.heap.size + 1 + 1, 0, none⟩) 2 2, .int .i64 1, .int .i64 2, .slice (some ⟨w.heap.size + 1 + 1 + 1, 0, none⟩) 1 1] T4)).cell? ⟨w.heap.size + 1 + 1, j, none⟩ = some x := by
    intro j x hx
    rw [(gal _ _).cell (by simp <;> omega), (gal _ _).cell (by simp <;> omega)]
    exact new_cell (by simp) hx
  have q3 : ∀ j x, #[Value.int .i64 4, .int .i64 5, .int .i64 3, .int .i64 2][j]? = some x → (((((w.alloc o).alloc (.cells #[.int .i64 0, .int .i64 12, .int .i64 0, .int .i64 12, .int .i64 1, .int .i64 12] T1)).alloc (.cells #[.int .i64 0, .int .i64 3, .int .i64 2, .int .i64 5, .int .i64 3, .int .i64 6, .int .i64 1, .int .i64 1] T2)).alloc (.cells #[.int .i64 4, .int .i64 5, .int .i64 3, .int .i64 2] T3)).alloc (.cells #[.int .i64 0, .int .i64 1, .slice (some ⟨w.heap.size + 1 + 1, 0, none⟩) 2 2, .int .i64 1, .int .i64 2, .slice (some ⟨w.heap.size + 1 + 1 + 1, 0, none⟩) 1 1] T4)).cell? ⟨w.heap.size + 1 + 1 + 1, j, none⟩ = some x := by
    intro j x hx
    rw [(gal _ _).cell (by simp <;> omega)]
    exact new_cell (by simp) hx
  refine ⟨.inr ⟨_, _, rfl, by simp <;> omega, fun j hj => ?_⟩, .inr ⟨_, _, rfl, by simp, fun j hj => ?_⟩, by simp [gLine], by simp [gLine]⟩
  · have hj' : j = 0 ∨ j = 1 ∨ j = 2 := by simp [gLine] at hj; omega
    rcases hj' with rfl | rfl | rfl
    · exact ⟨q1 0 _ rfl, q1 1 _ rfl⟩
    · exact ⟨q1 2 _ rfl, q1 3 _ rfl⟩
    · exact ⟨q1 4 _ rfl, q1 5 _ rfl⟩
  · have hj' : j = 0 ∨ j = 1 := by simp [gLine] at hj; omega
    rcases hj' with rfl | rfl
    · refine ⟨new_cell (by simp) rfl, new_cell (by simp) rfl, some ⟨w.heap.size + 1 + 1, 0, none⟩, 2, new_cell (by simp) rfl, .inr ⟨_, _, rfl, by simp <;> omega, fun k hk => ?_⟩, by simp [gLine], by omega⟩
      have hk' : k = 0 ∨ k = 1 := by simp [gLine] at hk; omega
      rcases hk' with rfl | rfl
      · exact ⟨q2 0 _ rfl, q2 1 _ rfl, q2 2 _ rfl, q2 3 _ rfl⟩
      · exact ⟨q2 4 _ rfl, q2 5 _ rfl, q2 6 _ rfl, q2 7 _ rfl⟩
    · refine ⟨new_cell (by simp) rfl, new_cell (by simp) rfl, some ⟨w.heap.size + 1 + 1 + 1, 0, none⟩, 1, new_cell (by simp) rfl, .inr ⟨_, _, rfl, by simp <;> omega, fun k hk => ?_⟩, by simp [gLine], by omega⟩
      have hk' : k = 0 := by simp [gLine] at hk; omega
      subst hk'
      exact ⟨q3 0 _ rfl, q3 1 _ rfl, q3 2 _ rfl, q3 3 _ rfl⟩

set_option maxRecDepth 100000 in
set_option maxHeartbeats 2000000 in
theorem line_any (w : World) : Calls Tryd.prog 9 #[] w fun r w' => ∃ la ea, r = .returned (.agg #[.int .i64 gLine.hor, .slice la gLine.lives.length 3, .slice ea gLine.edges.length 2]) ∧ GAt w' la ea gLine ∧ Below w.heap.size w w' := by
  go_enter Tryd.func9, Tryd.ntmps9
  go_wp2
  obtain ⟨o, ho⟩ : ∃ o : Obj, o = .cells #[.int .i64 12, .slice (some ⟨w.heap.size + 1, 0, none⟩) 3 3, .slice (some ⟨w.heap.size + 1 + 1 + 1 + 1, 0, none⟩) 2 2] 25 := ⟨_, rfl⟩
  have hG := line_at w o 51 56 56 54
  have q : ∀ j x, #[Value.int .i64 12, .slice (some ⟨w.heap.size + 1, 0, none⟩) 3 3, .slice (some ⟨w.heap.size + 1 + 1 + 1 + 1, 0, none⟩) 2 2][j]? = some x → (((((w.alloc o).alloc (.cells #[.int .i64 0, .int .i64 12, .int .i64 0, .int .i64 12, .int .i64 1, .int .i64 12] 51)).alloc (.cells #[.int .i64 0, .int .i64 3, .int .i64 2, .int .i64 5, .int .i64 3, .int .i64 6, .int .i64 1, .int .i64 1] 56)).alloc (.cells #[.int .i64 4, .int .i64 5, .int .i64 3, .int .i64 2] 56)).alloc (.cells #[.int .i64 0, .int .i64 1, .slice (some ⟨w.heap.size + 1 + 1, 0, none⟩) 2 2, .int .i64 1, .int .i64 2, .slice (some ⟨w.heap.size + 1 + 1 + 1, 0, none⟩) 1 1] 54)).cell? ⟨w.heap.size, j, none⟩ = some x := by
    intro j x hx
    rw [(gal _ _).cell (by simp <;> omega), (gal _ _).cell (by simp <;> omega), (gal _ _).cell (by simp <;> omega), (gal _ _).cell (by simp <;> omega), ho]
    exact new_cell rfl hx
  have q0 := q 0 _ rfl
  have q1 := q 1 _ rfl
  have q2 := q 2 _ rfl
  subst ho
  refine bodyPost_ret (v := .agg #[.int .i64 gLine.hor, .slice (some ⟨w.heap.size + 1, 0, none⟩) gLine.lives.length 3, .slice (some ⟨w.heap.size + 1 + 1 + 1 + 1, 0, none⟩) gLine.edges.length 2]) (by simp [results, Tryd.results9, go_sem, q0, q1, q2, gLine]) rfl ⟨_, _, rfl, hG, ptg (ptg (ptg (ptg (gal _ _) (gal _ _)) (gal _ _)) (gal _ _)) (gal _ _)⟩

end Go.Proofs.YtkgbgkcbflicmaiDoor

namespace Go.Proofs.YtkgbgkcbflicmaiDoor
open Go.RowKit

theorem three_ints (w : World) (T : TypeId) (a b c : Int) : ZsAt (w.alloc (.cells #[.int .i64 a, .int .i64 b, .int .i64 c] T)) (some ⟨w.heap.size, 0, none⟩) [a, b, c] := by
  refine .inr ⟨_, _, rfl, by simp, fun j hj => ?_⟩
  have hj' : j = 0 ∨ j = 1 ∨ j = 2 := by simp at hj; omega
  rcases hj' with rfl | rfl | rfl
  · exact new_cell rfl rfl
  · exact new_cell rfl rfl
  · exact new_cell rfl rfl
theorem two_hops (w : World) (T : TypeId) (a b c d : Int) : IvAt (w.alloc (.cells #[.int .i64 a, .int .i64 b, .int .i64 c, .int .i64 d] T)) (some ⟨w.heap.size, 0, none⟩) [(a, b), (c, d)] := by
  refine .inr ⟨_, _, rfl, by simp, fun j hj => ?_⟩
  have hj' : j = 0 ∨ j = 1 := by simp at hj; omega
  rcases hj' with rfl | rfl
  · exact ⟨new_cell rfl rfl, new_cell rfl rfl⟩
  · exact ⟨new_cell rfl rfl, new_cell rfl rfl⟩

set_option maxRecDepth 100000 in
set_option maxHeartbeats 1000000 in
theorem said_any (w : World) : Calls Tryd.prog 4 #[] w fun r w' => r = .returned (.bool true) ∧ Below w.heap.size w w' := by
  have H1 := hideg (fun la ea W (hG : GAt W la ea gLine) => eArr_any gLine la ea 3 2 0 0 W hG)
  have H2 := hideg (fun la ea W (hG : GAt W la ea gLine) => cCosts_any gLine la ea 3 2 0 0 W hG)
  have H3 := hideg (fun la ea W (hG : GAt W la ea gLine) => eWay_any gLine la ea 3 2 0 0 2 W hG)
  rw [line_arr, line_p0] at H1
  rw [line_p0] at H2
  have HP := hideg (fun W => line_any W)
  have HC : Hid (∀ L, LeastE gLine prCost 0 0 L → L = [0, 1, 3]) := fun L h => line_costs h
  have HW : Hid (∀ e l, WayIs gLine 0 0 2 e l → e = 0 ∧ l = [(0, 0), (1, 4)]) := fun e l h => line_wayIs h
  generalize gLine = gl at *
  go_enter Tryd.func4, Tryd.ntmps4
  go_wp2_with fail
  refine (HP.out _).mono ?_
  rintro r w1 ⟨la1, ea1, rfl, hG1, hb1⟩
  go_wp2_with fail
  refine (H1.out la1 ea1 _ hG1).mono ?_
  rintro r w2 ⟨u2, rfl, ho2, hb2⟩
  have hbb := ptg hb1 hb2
  clear hb1 hb2 hG1 H1
  go_wp2_with fail
  refine (HP.out _).mono ?_
  rintro r w3 ⟨la3, ea3, rfl, hG3, hb3⟩
  have ho2 := ownsRow_below ho2 hb3
  go_wp2_with fail
  refine (H2.out la3 ea3 _ hG3).mono ?_
  rintro r w4 ⟨u4, L4, rfl, hE4, ho4, hb4⟩
  have e4 := HC.out L4 hE4
  subst e4
  have ho2 := ownsRow_below ho2 hb4
  have hbb := ptg hbb (ptg hb3 hb4)
  clear hb3 hb4 hG3 H2 hE4 HC
  go_wp2_with fail
  refine (HP.out _).mono ?_
  rintro r w5 ⟨la5, ea5, rfl, hG5, hb5⟩
  have ho2 := ownsRow_below ho2 hb5
  have ho4 := ownsRow_below ho4 hb5
  go_wp2_with fail
  refine (H3.out la5 ea5 _ hG5).mono ?_
  rintro r w6 ⟨u6, e6, l6, rfl, hW6, ho6, hb6⟩
  obtain ⟨rfl, rfl⟩ := HW.out e6 l6 hW6
  have ho2 := ownsRow_below ho2 hb6
  have ho4 := ownsRow_below ho4 hb6
  have hbF := ptg hbb (ptg hb5 hb6)
  clear hb5 hb6 hbb hG5 HP H3 hW6 HW
  obtain ⟨a2, c2, rfl, z2⟩ := zsAt_of_owns ho2
  obtain ⟨a4, c4, rfl, z4⟩ := zsAt_of_owns ho4
  obtain ⟨a6, c6, rfl, z6⟩ := ivAt_of_owns ho6
  have hE1 := EqualI_any a2 (some ⟨w6.heap.size, 0, none⟩) c2 3 [0, 2, 7] [0, 2, 7] (w6.alloc (.cells #[.int .i64 0, .int .i64 2, .int .i64 7] 3)) (z2.below (gal _ _)) (three_ints _ _ _ _ _) (by simp)
  have HE2 := hideg (fun W (hb : Below w6.heap.size w6 W) => EqualI_any a4 (some ⟨W.heap.size, 0, none⟩) c4 3 [0, 1, 3] [0, 1, 3] (W.alloc (.cells #[.int .i64 0, .int .i64 1, .int .i64 3] 3)) (z4.below (ptg hb (gal _ _))) (three_ints _ _ _ _ _) (by simp))
  have HE3 := hideg (fun W (hb : Below w6.heap.size w6 W) => EqualHop_any a6 (some ⟨W.heap.size, 0, none⟩) c6 2 [(0, 0), (1, 4)] [(0, 0), (1, 4)] (W.alloc (.cells #[.int .i64 0, .int .i64 0, .int .i64 1, .int .i64 4] 43)) (z6.below (ptg hb (gal _ _))) (two_hops _ _ _ _ _ _) (by simp))
  rw [show decide (([0, 2, 7] : List Int) = [0, 2, 7]) = true from by decide] at hE1
  rw [show decide (([0, 1, 3] : List Int) = [0, 1, 3]) = true from by decide] at HE2
  rw [show decide (([(0, 0), (1, 4)] : List Hp) = [(0, 0), (1, 4)]) = true from by decide] at HE3
  simp only [List.length_cons, List.length_nil, Nat.zero_add] at hE1 HE2 HE3
  clear z2 z4 z6 ho2 ho4 ho6
  go_wp2_with fail
  refine hE1.mono ?_
  rintro r w7 ⟨rfl, hb7⟩
  have hb67 := ptg (gal w6 _) hb7
  have hE2 := HE2.out _ hb67
  clear hE1 hb7 HE2
  go_wp2_with fail
  refine hE2.mono ?_
  rintro r w8 ⟨rfl, hb8⟩
  have hb68 := ptg hb67 (ptg (gal w7 _) hb8)
  have hE3 := HE3.out _ hb68
  clear hE2 hb8 HE3 hb67
  go_wp2_with fail
  refine hE3.mono ?_
  rintro r w9 ⟨rfl, hb9⟩
  have hbG := ptg hbF (ptg hb68 (ptg (gal w8 _) hb9))
  clear hE3 hb9 hb68 hbF
  go_wp2
  go_ret
  exact ⟨rfl, hbG⟩

end Go.Proofs.YtkgbgkcbflicmaiDoor

namespace Go.Proofs.YtkgbgkcbflicmaiDoor
open Go.RowKit

theorem parse_nil : (parse []).2.2 = 3 := by decide +kernel

set_option maxRecDepth 100000 in
set_option maxHeartbeats 2000000 in
theorem topTexts_walk (g : Gr) (la ea : Option Addr) (lc ec : Nat) (v t : Int) (w : World) (hG : GAt w la ea g) (hT : Tab w) (hM : Ml w.heap.size w) :
    Calls Tryd.prog 3 #[.agg #[.int .i64 g.hor, .slice la g.lives.length lc, .slice ea g.edges.length ec], .int .i64 v, .int .i64 t] w fun r w' => r = .returned (.bool true) ∧ Below w.heap.size w w' := by
  have B0 := gbx_start w g la ea lc ec 25
  have hs := fun W => said_any W
  have HPr := hideg (fun W (hb : Below w.heap.size w W) => Print_any g la ea lc ec W (hG.below hb) (hT.low.below hb).tab)
  have HMl : Hid (∀ w', Below w.heap.size w w' → Ml w'.heap.size w') := fun w' h => (hM.below h).mono h.size
  have HPa := hideg (fun s w' (h : Below w.heap.size w w') => Parse_any s w' (HMl.out w' h))
  have HA := hideg (fun W (hb : Below w.heap.size w W) => eArr_any g la ea lc ec v t W (hG.below hb))
  have HA2 := hideg (fun xa ya xc yc W (hG : GAt W xa ya g) => eArr_any g xa ya xc yc v t W hG)
  clear hG hT hM
  go_enter Tryd.func3, Tryd.ntmps3
  go_wp2_with fail
  refine (hs _).mono ?_
  rintro r w1 ⟨rfl, hb1⟩
  have B1 := B0.below hb1
  have h2 := HPr.out w1 B1.bel
  clear hs hb1 B0 HPr
  have g0 := B1.c0
  have g1 := B1.c1
  have g2 := B1.c2
  go_wp2_with fail
  refine h2.mono ?_
  rintro r w2 ⟨rfl, hb2⟩
  have B2 := B1.below hb2
  clear h2 hb2 B1 g0 g1 g2
  by_cases h0 : gChk g = 0
  case neg =>
    have h3 := HPa.out ⟨(gOut g).toArray⟩ w2 B2.bel
    have eo : gOut g = [] := by unfold gOut; rw [if_neg h0]
    have e1 : (⟨(gOut g).toArray⟩ : ByteArray).data.toList = gOut g := rfl
    rw [e1, eo, parse_nil] at h3
    have d0 : (gChk g != 0) = true := by simpa using h0
    rw [eo]
    generalize gChk g = n at *
    clear h0 eo e1 HPa HA HA2
    go_wp2_with fail
    refine h3.mono ?_
    rintro r w3 ⟨x, rfl, hx, hb3⟩
    obtain ⟨xa, xc, ya, yc, rfl, hgx, _, _⟩ := hx.gat
    have hbF := (B2.below hb3).bel
    have HBo := hideg (fun o => ptg hbF (gal w3 o))
    clear h3 hx hgx hb3 B2
    go_wp2
    go_ret
    exact ⟨rfl, HBo.out _⟩
  have h3 := HPa.out ⟨(gOut g).toArray⟩ w2 B2.bel
  have eo : gOut g = gText g := by unfold gOut; rw [if_pos h0]
  have e1 : (⟨(gOut g).toArray⟩ : ByteArray).data.toList = gOut g := rfl
  rw [e1, eo, parse_print h0] at h3
  rw [eo, h0]
  clear eo e1 HPa h0
  go_wp2_with fail
  refine h3.mono ?_
  rintro r w3 ⟨x, rfl, hx, hb3⟩
  obtain ⟨xa, xc, ya, yc, rfl, hgx, _, _⟩ := hx.gat
  have B3 := B2.below hb3
  clear h3 hx hb3 B2
  obtain ⟨w4, hw4⟩ : ∃ x, x = w3.alloc (.cells #[.int .i64 g.hor, .slice xa g.lives.length xc, .slice ya g.edges.length yc] 25) := ⟨_, rfl⟩
  have b4 : Below w3.heap.size w3 w4 := by rw [hw4]; exact gal w3 _
  have B4 := B3.below b4
  have X4 : GBx w3 w4 w3.heap.size g xa ya xc yc := by rw [hw4]; exact gbx_start w3 g xa ya xc yc 25
  have h5 := HA.out w4 B4.bel
  have HG4 := hideg (hgx.below b4)
  have hw4s := hw4.symm
  have hlA : (arrA g v t).length ≤ 12 ∨ (arrA g v t).length = 0 := by
    unfold arrA
    split
    · rename_i e1
      rw [(erF_len g v t).1]
      exact .inl (gChk_right (placeE_zero e1).1).lvs
    · exact .inr rfl
  generalize arrA g v t = A at *
  have dp : (placeE g v t == placeE g v t) = true := by simp
  generalize placeE g v t = pe at *
  clear hw4 b4 B3 hgx HA
  have g0' := B4.c0
  have g1' := B4.c1
  have g2' := B4.c2
  go_wp2_with fail
  refine h5.mono ?_
  rintro r w5 ⟨u5, rfl, ho5, hb5⟩
  have B5 := B4.below hb5
  have X5 := X4.below hb5
  have h6 := HA2.out xa ya xc yc w5 (HG4.out.below hb5)
  clear h5 hb5 B4 X4 g0' g1' g2' HG4 HA2 hw4s
  have x0 := X5.c0
  have x1 := X5.c1
  have x2 := X5.c2
  go_wp2_with fail
  refine h6.mono ?_
  rintro r w6 ⟨u6, rfl, ho6, hb6⟩
  have B6 := B5.below hb6
  have ho5 := ownsRow_below ho5 hb6
  obtain ⟨a5, c5, rfl, z5⟩ := zsAt_of_owns ho5
  obtain ⟨a6, c6, rfl, z6⟩ := zsAt_of_owns ho6
  have hE := EqualI_any a5 a6 c5 c6 A A w6 z5 z6 (by omega)
  rw [show decide (A = A) = true from decide_eq_true rfl] at hE
  clear h6 hb6 B5 X5 x0 x1 x2 ho5 ho6 z5 z6
  go_wp2_with fail
  refine hE.mono ?_
  rintro r w7 ⟨rfl, hb7⟩
  have hbF := (B6.below hb7).bel
  clear hE hb7 B6
  go_wp2
  go_ret
  exact ⟨rfl, hbF⟩

end Go.Proofs.YtkgbgkcbflicmaiDoor

namespace Go.Proofs.YtkgbgkcbflicmaiDoor
open Go.ChangeShapes Go.WideShapes Go.ChangeAt Go.RowKit Go.Deep

theorem Tryd.own : ownKnob Tryd.prog.godebug = none := by kernel_rfl
theorem Tryd.laidOut : laidOutB Tryd.prog = true := by kernel_rfl
theorem Tryd.cellsIvl : Tryd.prog.cellsOf 51 = 2 := by kernel_rfl
theorem Tryd.cellsInt : Tryd.prog.cellsOf 3 = 1 := by kernel_rfl

theorem open_ivs {H : Type} {enc : TypeId × Value → H} {W : World} {a : Option Addr} {len cap : Nat} {d : DataW H} {ps : List MemPlace}
    (h : DataW.Trod enc Tryd.prog W 0 (fun _ => true) true 22 (.slice a len cap) d ps) : ∃ l : List (Int × Int), l.length = len ∧ IvAt W a l ∧ len ≤ cap ∧ cap ≤ 9223372036854775807 := by
  obtain ⟨fuel, hf⟩ := h
  rcases open_slice_pairs Tryd.underlying22 Tryd.underlying51 Tryd.cellsIvl rfl rfl Tryd.cellsInt Tryd.cellsInt hf with ⟨hcs, _⟩ | ⟨x, l, c, m, n, V0, V1, D0, D1, P0, P1, hcs, _, hl, hm, hmm, _, hcell⟩
  · simp [Value.cells] at hcs
    obtain ⟨rfl, rfl, rfl⟩ := hcs
    exact ⟨[], rfl, .inl rfl, Nat.le_refl _, by omega⟩
  · simp [Value.cells] at hcs
    obtain ⟨rfl, rfl, rfl⟩ := hcs
    simp only [if_true] at hmm
    subst hmm
    have each : ∀ i, i < len → ∃ q : Int × Int, W.cell? (x.add (i * 2)) = some (.int .i64 q.1) ∧ W.cell? (x.add (i * 2 + 1)) = some (.int .i64 q.2) := by
      intro i hi
      obtain ⟨h0, h1, t0, t1⟩ := hcell i (by omega)
      obtain ⟨z0, e0, _, _⟩ := DataW.trod_int Tryd.underlying3 t0
      obtain ⟨z1, e1, _, _⟩ := DataW.trod_int Tryd.underlying3 t1
      simp only [List.cons.injEq, and_true] at e0 e1
      exact ⟨(z0, z1), by rw [h0, e0], by rw [h1, e1]⟩
    obtain ⟨q, hq⟩ := choose_lt each
    refine ⟨(List.range len).map q, by simp, ?_, hl, by unfold maxLen at hm; omega⟩
    by_cases h0 : len = 0
    · subst h0; exact .inl (by simp)
    · obtain ⟨b, off, spot⟩ := x
      have hc0 := (hq 0 (by omega)).1
      have hspot : spot = none := by simpa [Addr.add] using World.cell?_spot hc0
      subst hspot
      have hlt := World.block_lt_of_cell? W _ hc0
      refine .inr ⟨b, off, rfl, by simpa [Addr.add] using hlt, fun j hj => ?_⟩
      simp only [List.length_map, List.length_range] at hj
      have hg : ((List.range len).map q).getD j (0, 0) = q j := by simp [List.getD_eq_getElem?_getD, hj]
      rw [hg]
      have := hq j hj
      rw [add_plain, add_plain] at this
      simpa [Nat.add_assoc] using this

end Go.Proofs.YtkgbgkcbflicmaiDoor

namespace Go.Proofs.YtkgbgkcbflicmaiDoor
open Go.ChangeShapes Go.WideShapes Go.ChangeAt Go.RowKit Go.Deep

theorem Tryd.cellsLeg : Tryd.prog.cellsOf 56 = 4 := by kernel_rfl
theorem Tryd.cellsEdge : Tryd.prog.cellsOf 54 = 3 := by kernel_rfl
theorem Tryd.cellsGraph : Tryd.prog.cellsOf 25 = 3 := by kernel_rfl
theorem Tryd.cellsLegs : Tryd.prog.cellsOf 52 = 1 := by kernel_rfl
theorem Tryd.cellsIvls : Tryd.prog.cellsOf 22 = 1 := by kernel_rfl
theorem Tryd.cellsEdges : Tryd.prog.cellsOf 23 = 1 := by kernel_rfl

theorem open_ivs_c {H : Type} {enc : TypeId × Value → H} {W : World} {fuel : Nat} {cs : List Value} {d : DataW H} {ps : List MemPlace}
    (hf : DataW.trod enc Tryd.prog W 0 (fun _ => true) true fuel 22 cs = some (d, ps)) : ∃ a cap, ∃ l : List (Int × Int), cs = [.slice a l.length cap] ∧ IvAt W a l ∧ l.length ≤ cap ∧ cap ≤ 9223372036854775807 := by
  have h : ∃ a n c, cs = [.slice a n c] := by
    rcases open_slice Tryd.underlying22 hf with ⟨hcs, _⟩ | ⟨x, l, c, m, n, D, Pl, hcs, _⟩
    · exact ⟨_, _, _, hcs⟩
    · exact ⟨_, _, _, hcs⟩
  obtain ⟨a, n, c, rfl⟩ := h
  obtain ⟨l, rfl, h1, h2, h3⟩ := open_ivs (a := a) (len := n) (cap := c) ⟨fuel, hf⟩
  exact ⟨a, c, l, rfl, h1, h2, h3⟩

set_option maxRecDepth 100000 in
theorem open_legs_c {H : Type} {enc : TypeId × Value → H} {W : World} {fuel : Nat} {cs : List Value} {d : DataW H} {ps : List MemPlace}
    (hf : DataW.trod enc Tryd.prog W 0 (fun _ => true) true fuel 52 cs = some (d, ps)) : ∃ a cap, ∃ l : List Lg, cs = [.slice a l.length cap] ∧ LgAt W a l ∧ l.length ≤ cap ∧ cap ≤ 9223372036854775807 := by
  rcases open_slice Tryd.underlying52 hf with ⟨hcs, _⟩ | ⟨x, len, cap, m, n, D, Pl, hcs, _, hl, hm, hmm, _, hx⟩
  · exact ⟨none, 0, [], hcs, .inl rfl, Nat.le_refl _, by omega⟩
  · simp only [if_true] at hmm
    subst hmm
    have each : ∀ i, i < len → ∃ q : Lg, W.cell? (x.add (i * 4)) = some (.int .i64 q.1) ∧ W.cell? (x.add (i * 4 + 1)) = some (.int .i64 q.2.1) ∧ W.cell? (x.add (i * 4 + 2)) = some (.int .i64 q.2.2.1) ∧ W.cell? (x.add (i * 4 + 3)) = some (.int .i64 q.2.2.2) := by
      intro i hi
      obtain ⟨cs', h1, h2⟩ := hx i (by omega)
      rw [Tryd.cellsLeg] at h1
      obtain ⟨_, hlen, hcell⟩ := World.cells?_some h1
      obtain ⟨xs, k, hk, hxy, _, hxl, hff⟩ := DataW.trod_struct Tryd.underlying56 h2
      match xs, hxl, cs', hlen with
      | [y0, y1, y2, y3], _, [v0, v1, v2, v3], _ =>
        have g0 := hff 0 _ rfl
        have g1 := hff 1 _ rfl
        have g2 := hff 2 _ rfl
        have g3 := hff 3 _ rfl
        simp [Tryd.cellsInt] at g0 g1 g2 g3
        have e0 := hcell 0 (by omega)
        have e1 := hcell 1 (by omega)
        have e2 := hcell 2 (by omega)
        have e3 := hcell 3 (by omega)
        rw [add_add] at e0 e1 e2 e3
        obtain ⟨z0, f0, _, _⟩ := DataW.trod_int Tryd.underlying3 g0
        obtain ⟨z1, f1, _, _⟩ := DataW.trod_int Tryd.underlying3 g1
        obtain ⟨z2, f2, _, _⟩ := DataW.trod_int Tryd.underlying3 g2
        obtain ⟨z3, f3, _, _⟩ := DataW.trod_int Tryd.underlying3 g3
        simp only [List.cons.injEq, and_true] at f0 f1 f2 f3
        subst f0
        subst f1
        subst f2
        subst f3
        exact ⟨(z0, z1, z2, z3), by simpa using e0, by simpa using e1, by simpa using e2, by simpa using e3⟩
    obtain ⟨q, hq⟩ := choose_lt each
    refine ⟨some x, m, (List.range len).map q, by rw [hcs]; simp, ?_, by simpa using hl, by unfold maxLen at hm; omega⟩
    by_cases h0 : len = 0
    · subst h0; exact .inl (by simp)
    · obtain ⟨b, off, spot⟩ := x
      have hc0 := (hq 0 (by omega)).1
      have hspot : spot = none := by simpa [Addr.add] using World.cell?_spot hc0
      subst hspot
      have hlt := World.block_lt_of_cell? W _ hc0
      refine .inr ⟨b, off, rfl, by simpa [Addr.add] using hlt, fun j hj => ?_⟩
      simp only [List.length_map, List.length_range] at hj
      have hg : ((List.range len).map q).getD j (0, 0, 0, 0) = q j := by simp [List.getD_eq_getElem?_getD, hj]
      rw [hg]
      have := hq j hj
      rw [add_plain, add_plain, add_plain, add_plain] at this
      simpa [Nat.add_assoc] using this

set_option maxRecDepth 100000 in
theorem open_eds_c {H : Type} {enc : TypeId × Value → H} {W : World} {fuel : Nat} {cs : List Value} {d : DataW H} {ps : List MemPlace}
    (hf : DataW.trod enc Tryd.prog W 0 (fun _ => true) true fuel 23 cs = some (d, ps)) : ∃ a cap, ∃ l : List Ed, cs = [.slice a l.length cap] ∧ EdAt W a l ∧ l.length ≤ cap ∧ cap ≤ 9223372036854775807 := by
  rcases open_slice Tryd.underlying23 hf with ⟨hcs, _⟩ | ⟨x, len, cap, m, n, D, Pl, hcs, _, hl, hm, hmm, _, hx⟩
  · exact ⟨none, 0, [], hcs, .inl rfl, Nat.le_refl _, by omega⟩
  · simp only [if_true] at hmm
    subst hmm
    have each : ∀ i, i < len → ∃ q : Ed, W.cell? (x.add (i * 3)) = some (.int .i64 q.1) ∧ W.cell? (x.add (i * 3 + 1)) = some (.int .i64 q.2.1) ∧ ∃ la lc, W.cell? (x.add (i * 3 + 2)) = some (.slice la q.2.2.length lc) ∧ LgAt W la q.2.2 ∧ q.2.2.length ≤ lc ∧ lc ≤ 9223372036854775807 := by
      intro i hi
      obtain ⟨cs', h1, h2⟩ := hx i (by omega)
      rw [Tryd.cellsEdge] at h1
      obtain ⟨_, hlen, hcell⟩ := World.cells?_some h1
      obtain ⟨xs, k, hk, hxy, _, hxl, hff⟩ := DataW.trod_struct Tryd.underlying54 h2
      match xs, hxl, cs', hlen with
      | [y0, y1, y2], _, [v0, v1, v2], _ =>
        have g0 := hff 0 _ rfl
        have g1 := hff 1 _ rfl
        have g2 := hff 2 _ rfl
        simp [Tryd.cellsInt, Tryd.cellsLegs] at g0 g1 g2
        have e0 := hcell 0 (by omega)
        have e1 := hcell 1 (by omega)
        have e2 := hcell 2 (by omega)
        rw [add_add] at e0 e1 e2
        obtain ⟨z0, f0, _, _⟩ := DataW.trod_int Tryd.underlying3 g0
        obtain ⟨z1, f1, _, _⟩ := DataW.trod_int Tryd.underlying3 g1
        obtain ⟨la, lc, ls, f2, hL, hn, hm'⟩ := open_legs_c (d := y2.1) (ps := y2.2) g2
        simp only [List.cons.injEq, and_true] at f0 f1 f2
        subst f0
        subst f1
        subst f2
        exact ⟨(z0, z1, ls), by simpa using e0, by simpa using e1, la, lc, by simpa using e2, hL, hn, hm'⟩
    obtain ⟨q, hq⟩ := choose_lt each
    refine ⟨some x, m, (List.range len).map q, by rw [hcs]; simp, ?_, by simpa using hl, by unfold maxLen at hm; omega⟩
    by_cases h0 : len = 0
    · subst h0; exact .inl (by simp)
    · obtain ⟨b, off, spot⟩ := x
      have hc0 := (hq 0 (by omega)).1
      have hspot : spot = none := by simpa [Addr.add] using World.cell?_spot hc0
      subst hspot
      have hlt := World.block_lt_of_cell? W _ hc0
      refine .inr ⟨b, off, rfl, by simpa [Addr.add] using hlt, fun j hj => ?_⟩
      simp only [List.length_map, List.length_range] at hj
      have hg : ((List.range len).map q)[j]'(by simpa using hj) = q j := by simp
      rw [hg]
      obtain ⟨r0, r1, la, lc, r2, r3⟩ := hq j hj
      rw [add_plain] at r0 r1 r2
      exact ⟨by simpa [Nat.add_assoc] using r0, by simpa [Nat.add_assoc] using r1, la, lc, by simpa [Nat.add_assoc] using r2, r3⟩

theorem three_ofG {α : Type} {cs : Array α} (h : cs.size = 3) : ∃ x y z, cs = #[x, y, z] := by
  obtain ⟨l⟩ := cs
  match l, h with
  | [x, y, z], _ => exact ⟨x, y, z, rfl⟩

set_option maxRecDepth 100000 in
theorem open_graph {H : Type} {enc : TypeId × Value → H} {W : World} {r : Reach} {b0 : Nat} {v : Value} {d : DataW H} {ps : List MemPlace}
    (hv : Value.okWide Tryd.prog W r b0 25 v) (h : DataW.Trod enc Tryd.prog W 0 (fun _ => true) true 25 v d ps) :
    ∃ (g : Gr) (la ea : Option Addr) (lc ec : Nat), v = .agg #[.int .i64 g.hor, .slice la g.lives.length lc, .slice ea g.edges.length ec] ∧ GAt W la ea g ∧ g.lives.length ≤ lc ∧ lc ≤ 9223372036854775807 := by
  obtain ⟨cs, rfl, hsz⟩ := okWide_struct Tryd.underlying25 hv
  obtain ⟨v0, v1, v2, rfl⟩ := three_ofG (hsz.trans Tryd.cellsGraph)
  obtain ⟨fuel, h2⟩ := h
  obtain ⟨xs, k, hk, hxy, _, hxl, hff⟩ := DataW.trod_struct Tryd.underlying25 h2
  match xs, hxl with
  | [y0, y1, y2], _ =>
    have g0 := hff 0 _ rfl
    have g1 := hff 1 _ rfl
    have g2 := hff 2 _ rfl
    simp [Tryd.cellsInt, Tryd.cellsIvls, Tryd.cellsEdges, Value.cells] at g0 g1 g2
    obtain ⟨z0, f0, _, _⟩ := DataW.trod_int Tryd.underlying3 g0
    obtain ⟨la, lc, ls, f1, hL, hn, hm⟩ := open_ivs_c (d := y1.1) (ps := y1.2) g1
    obtain ⟨ea, ec, es, f2, hE, hn2, hm2⟩ := open_eds_c (d := y2.1) (ps := y2.2) g2
    simp only [List.cons.injEq, and_true] at f0 f1 f2
    subst f0
    subst f1
    subst f2
    exact ⟨⟨z0, ls, es⟩, la, ea, lc, ec, rfl, ⟨hL, hE, by simp only; omega, by simp only; omega⟩, hn, hm⟩

end Go.Proofs.YtkgbgkcbflicmaiDoor

namespace Go.Proofs.YtkgbgkcbflicmaiDoor
open Go.RowKit

theorem handed_shaped_and {H : Type} {enc : TypeId × Value → H} {a : Assume} {C : Checked} {os : Os} {f : FuncId} {fn : Func} {s : ChangeSpec} {conds : List PathCond} {apart fresh handsOn again : Bool} {X : World → Array Value → Prop}
    (hX : ∀ (w w' : World) (args : Array Value), w.heap = w'.heap → X w args → X w' args)
    (own : ownKnob C.prog.godebug = none) (started : os.Started) (noInit : C.prog.inits.idxOf? f = none) (hfn : C.prog.funcs[f]? = some fn)
    (witness : ∃ (w : World) (tape : Tape) (i : Input), w.os = os ∧ (w.forCall tape i).Shaped C.prog ∧ i.vars = [] ∧ Input.okWide C.prog (w.forCall tape i) .any w.heap.size f i ∧
      ((s.pre enc C.prog fn conds apart (w.forCall tape i).memory i.args ∧ X (w.forCall tape i).memory i.args) ∧ sizedMet enc C.prog fn (OpenSpec.ofChange s) apart (w.forCall tape i).memory i.args) ∧ a.holds C.prog (lone (Frame.enter C.prog f i.args .normal) [] (w.forCall tape i)))
    (law : ∀ (W : World) (base : Nat) (args : Array Value) (ds gs : List (DataW H)) (before : List MemPlace),
      (∀ (j : Nat) t v, fn.params[j]? = some t → args[j]? = some v → Value.okWide C.prog W .any base t v) →
      DataW.Whole enc C.prog fn.params.toList s.vars apart W args.toList ds gs before → X W args → W.ShapedOpen C.prog →
      Calls C.prog f args W fun e W' => ∃ v, e = .returned v ∧ s.post enc C.prog fn apart fresh handsOn again W args v W') :
    ReturnsInHanded a C os f .any (fun w args => (s.pre enc C.prog fn conds apart w args ∧ X w args) ∧ sizedMet enc C.prog fn (OpenSpec.ofChange s) apart w args) (s.post enc C.prog fn apart fresh handsOn again) := by
  refine returnsInHanded_of_calls own started noInit witness fun w tape i _ hsh _ hok hpre _ => ?_
  obtain ⟨_, _, _, fn', hfn', _, _, _, _, hval⟩ := hok
  obtain rfl : fn' = fn := Option.some.inj (hfn'.symm.trans hfn)
  obtain ⟨⟨⟨ds, gs, before, hw, _⟩, hx⟩, _⟩ := hpre
  refine (law (w.forCall tape i) w.heap.size i.args ds gs before hval (hw.of_heap (by rfl)) (hX _ _ _ (by rfl) hx) hsh).mono ?_
  rintro e W' ⟨v, rfl, hp⟩
  exact ChangeSpec.post_blind hp

/-- the cell of MaxLen, in a world of the program's shape -/
theorem ml_of_shape {W : World} (h : W.ShapedOpen Tryd.prog) : Ml W.heap.size W := by
  obtain ⟨m, hm⟩ := cell_of_shapedOpen_int (g := 0) (t := 3) (zero := #[.int .i64 0]) (k := .i64) h (of_decide_eq_true (by kernel_rfl)) (by kernel_rfl) rfl (by kernel_rfl) (by kernel_rfl) Tryd.underlying3
  refine ⟨?_, m, hm⟩
  rcases Nat.lt_or_ge 0 W.heap.size with k | k
  · exact k
  · simp [World.cell?, Array.getElem?_eq_none k] at hm

end Go.Proofs.YtkgbgkcbflicmaiDoor

namespace Go.Proofs.YtkgbgkcbflicmaiDoor
open Go.ChangeShapes Go.WideShapes Go.ChangeAt Go.RowKit

theorem topTexts_met (os : Os) (args : Array Value) : laidMetH Tryd.prog Rows.topTextsRow.laid ((World.laidAll Tryd.prog os Rows.topTextsRow.laid).forCall (fun _ _ => 0) ⟨#[], args, []⟩).memory := by
  rw [MakeChecks.laidMetH_plain _ _ _ (by kernel_rfl)]
  exact laidMet_laidAll _ (by kernel_rfl) (by kernel_rfl)

theorem topTexts_tab {W : World} (h : laidMetH Tryd.prog Rows.topTextsRow.laid W) : Tab W := by
  rw [MakeChecks.laidMetH_plain _ _ _ (by kernel_rfl)] at h
  have h3 := laidMet.tail (laidMet.tail h)
  have e : (Rows.laid_internal_strconv_uint64pow10 : DataW Unit) = Lib.tabData .u64 Lib.pow10Tab := by kernel_rfl
  rw [e] at h3
  exact Lib.tabIs_of_head (g := 1) (t := 135) (e := 118) (n := 20) (by kernel_rfl) (by kernel_rfl) Tryd.underlying135 Tryd.underlying118 (by kernel_rfl) (by kernel_rfl) h3

set_option maxRecDepth 100000 in
theorem topTexts_lifted (os : Os) (started : os.Started) (H : Type) (enc : TypeId × Value → H) :
    ReturnsInHanded {} Tryd.checked os 3 .any (fun w args => (Rows.topTextsSpec.pre enc Tryd.prog Tryd.f3 [] false w args ∧ laidMetH Tryd.prog Rows.topTextsRow.laid w) ∧ sizedMet enc Tryd.prog Tryd.f3 (OpenSpec.ofChange Rows.topTextsSpec) false w args)
      (Rows.topTextsSpec.post enc Tryd.prog Tryd.f3 false true false false) := by
  refine handed_shaped_and (C := Tryd.checked) (X := fun w _ => laidMetH Tryd.prog Rows.topTextsRow.laid w) (fun _ _ _ hh h => h.of_heap hh) Tryd.own started (by kernel_rfl) Tryd.func3
    (ChangeSpec.witness_shaped (enc := enc) (C := Tryd.checked) (os := os) (X := fun w _ => laidMetH Tryd.prog Rows.topTextsRow.laid w) false (World.laidAll Tryd.prog os Rows.topTextsRow.laid) #[.agg #[.int .i64 0, .slice none 0 0, .slice none 0 0], .int .i64 0, .int .i64 0] 8 (World.laidAll_os _ _ _) (World.shaped_of_ZipB (by kernel_rfl) (by kernel_rfl)) (by kernel_rfl) (by kernel_rfl) (by kernel_rfl) (topTexts_met os _)) ?_
  intro W base args ds gs before hval0 hW hL hSh
  have hval : ∀ (j : Nat) t v, Tryd.f3.params[j]? = some t → args[j]? = some v → Value.okWide Tryd.prog W .any base t v := hval0
  have hW' := hW
  obtain ⟨p, q, hA0, hV, rfl, hfz, hnd⟩ := hW
  have hA : DataW.TrodAll enc Tryd.prog W 0 (fun _ => true) true Tryd.f3.params.toList args.toList ds p := hA0
  rw [Tryd.params3] at hA hval
  obtain ⟨v0, vs0, d0, ds0, p0, q0, hargs, rfl, rfl, h0, r0⟩ := trodAll_cons hA
  obtain ⟨v1, vs1, d1, ds1, p1, q1, rfl, rfl, rfl, h1, r1⟩ := trodAll_cons r0
  obtain ⟨v2, vs2, d2, ds2, p2, q2, rfl, rfl, rfl, h2, r2⟩ := trodAll_cons r1
  obtain ⟨rfl, rfl, rfl⟩ := trodAll_nil r2
  obtain rfl : args = #[v0, v1, v2] := by cases args; simp_all
  obtain ⟨rfl, rfl⟩ := trodVars_none hV
  have k0 := h0
  have lt0 : ∀ x ∈ p0, x.block < W.heap.size := by obtain ⟨m, hm⟩ := k0; exact DataW.trod_lt m _ _ _ hm
  obtain ⟨g, la, ea, lc, ec, rfl, hG, hl1, hl2⟩ := open_graph (hval 0 25 v0 rfl rfl) h0
  obtain ⟨t1, rfl, rfl, rfl, wt1⟩ := open_int Tryd.underlying3 (hval 1 3 v1 rfl rfl) h1
  obtain ⟨t2, rfl, rfl, rfl, wt2⟩ := open_int Tryd.underlying3 (hval 2 3 v2 rfl rfl) h2
  clear hA0 hval0
  refine (topTexts_walk g la ea lc ec t1 t2 W hG (topTexts_tab hL) (ml_of_shape hSh)).mono fun e W' ⟨he, bel⟩ => ?_
  subst he
  exact ⟨_, rfl, _, _, _, [], _, [], hW', trodAll_mk1 (shut_bool Tryd.underlying4 _), (trodAll_cons_mk (Below.trod Tryd.laidOut (by kernel_rfl) (of_decide_eq_true (by kernel_rfl)) k0 bel lt0) (trodAll_cons_mk (shut_int Tryd.underlying3 wt1) (trodAll_cons_mk (shut_int Tryd.underlying3 wt2) trodAll_mk0))), rfl, bel.frame _, fun h => by cases h⟩

theorem topTexts_row : Rows.TopTextsSaid :=
  OpenClaim.holds_of_wide 3 Tryd.f3 rfl rfl rfl rfl rfl rfl rfl ⟨rfl, rfl, rfl, rfl, rfl⟩ rfl rfl rfl rfl rfl (by kernel_rfl) Tryd.func3 (by kernel_rfl)
    (of_decide_eq_true (by kernel_rfl)) (by unfold Func.isWrapper; first | (rw [if_pos (by decide +kernel)]; kernel_rfl) | (rw [if_neg (by decide +kernel)]; exact ⟨rfl, rfl⟩))
    (fun os started H enc _ => topTexts_lifted os started H enc)

theorem topTexts_holds : Rows.TopTextsCardSaid :=
  Claim7.holds_tied_plain_at .later [] [.data, .data, .data, .data, .pinned] true Rows.topTextsCard.stood.harness false
    topTexts_row (fun _ h => by cases h) (by kernel_rfl) (fun _ h => by cases h) topTexts_row_tie rfl ⟨rfl, rfl⟩ (by kernel_rfl) rfl
    (fun f fn hf hfn => by
      obtain rfl : f = 3 := Option.some.inj ((show Tryd.prog.funcNamed Tryd.f3.name = some 3 by kernel_rfl).symm.trans hf) |>.symm
      obtain rfl : fn = Tryd.f3 := (Option.some.inj (Tryd.func3.symm.trans hfn)).symm
      exact ⟨by kernel_rfl, fun j t ht => by
        rw [Tryd.params3] at ht
        have hm : t ∈ [25, 3, 3] := by simpa using Array.mem_of_getElem? ht
        have hall : ([25, 3, 3].all fun u => !Tryd.prog.wantsStandIn u) = true := by kernel_rfl
        exact (show Tryd.prog.wantsStandIn t = false by simpa using List.all_eq_true.1 hall t hm)⟩)
    (by kernel_rfl)

end Go.Proofs.YtkgbgkcbflicmaiDoor
