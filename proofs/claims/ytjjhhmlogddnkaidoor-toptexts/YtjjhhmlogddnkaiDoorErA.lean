/-
  Rides in memory; what Rides of the program's journeys answers.
-/
import Derived.Test.YtjjhhmlogddnkaiDoorJpB
import Derived.Test.YtjjhhmlogddnkaiDoorErOut
namespace Go.Proofs.YtjjhhmlogddnkaiDoor
open Go.RowKit

theorem Tryd.infoRide : (Tryd.prog.info? 68).map (fun i => (i.zero, i.size, i.bytes)) = some (some (.agg #[.int .i64 0, .int .i64 0, .int .i64 0, .int .i64 0, .int .i64 0, .int .i64 0]), 6, 48) := by kernel_rfl
theorem stopHereR {p : Prop} (h : Hid p) : p := h

/-- the values of a ride -/
def encR (c : Ri) : List Value := [.int .i64 c.1, .int .i64 c.2.1, .int .i64 c.2.2.1, .int .i64 c.2.2.2.1, .int .i64 c.2.2.2.2.1, .int .i64 c.2.2.2.2.2]
def encRs (l : List Ri) : List Value := l.flatMap encR
theorem encRs_append (a b : List Ri) : encRs (a ++ b) = encRs a ++ encRs b := by simp [encRs]
theorem encRs_length (l : List Ri) : (encRs l).length = l.length * 6 := by
  induction l with
  | nil => rfl
  | cons c l ih => simp only [encRs, List.flatMap_cons, List.length_append, List.length_cons] at ih ⊢; rw [ih]; simp [encR]; omega
def ri0 : Ri := (0, 0, 0, 0, 0, 0)
theorem encRs_get (l : List Ri) (j : Nat) (h : j < l.length) : (encRs l)[j * 6]? = some (.int .i64 (l.getD j ri0).1) ∧ (encRs l)[j * 6 + 1]? = some (.int .i64 (l.getD j ri0).2.1) ∧ (encRs l)[j * 6 + 2]? = some (.int .i64 (l.getD j ri0).2.2.1) ∧ (encRs l)[j * 6 + 3]? = some (.int .i64 (l.getD j ri0).2.2.2.1) ∧ (encRs l)[j * 6 + 4]? = some (.int .i64 (l.getD j ri0).2.2.2.2.1) ∧ (encRs l)[j * 6 + 5]? = some (.int .i64 (l.getD j ri0).2.2.2.2.2) := by
  induction l generalizing j with
  | nil => simp at h
  | cons c l ih =>
    have e : encRs (c :: l) = .int .i64 c.1 :: .int .i64 c.2.1 :: .int .i64 c.2.2.1 :: .int .i64 c.2.2.2.1 :: .int .i64 c.2.2.2.2.1 :: .int .i64 c.2.2.2.2.2 :: encRs l := by simp [encRs, encR]
    rw [e]
    cases j with
    | zero => exact ⟨rfl, rfl, rfl, rfl, rfl, rfl⟩
    | succ j =>
      have := ih j (by simpa using h)
      rw [show (j + 1) * 6 = j * 6 + 1 + 1 + 1 + 1 + 1 + 1 by omega]
      simpa using this
/-- one ride in six cells -/
structure RdOne (w : World) (b o : Nat) (r : Ri) : Prop where
  c0 : w.cell? ⟨b, o, none⟩ = some (.int .i64 r.1)
  c1 : w.cell? ⟨b, o + 1, none⟩ = some (.int .i64 r.2.1)
  c2 : w.cell? ⟨b, o + 2, none⟩ = some (.int .i64 r.2.2.1)
  c3 : w.cell? ⟨b, o + 3, none⟩ = some (.int .i64 r.2.2.2.1)
  c4 : w.cell? ⟨b, o + 4, none⟩ = some (.int .i64 r.2.2.2.2.1)
  c5 : w.cell? ⟨b, o + 5, none⟩ = some (.int .i64 r.2.2.2.2.2)
theorem RdOne.below {w w' : World} {b o : Nat} {r : Ri} (h : RdOne w b o r) (hlt : b < w.heap.size) (hb : Below w.heap.size w w') : RdOne w' b o r :=
  ⟨(hb.cell (p := ⟨b, o, none⟩) hlt).trans h.c0, (hb.cell (p := ⟨b, o + 1, none⟩) hlt).trans h.c1, (hb.cell (p := ⟨b, o + 2, none⟩) hlt).trans h.c2, (hb.cell (p := ⟨b, o + 3, none⟩) hlt).trans h.c3, (hb.cell (p := ⟨b, o + 4, none⟩) hlt).trans h.c4, (hb.cell (p := ⟨b, o + 5, none⟩) hlt).trans h.c5⟩
/-- the rides of l lie at ao, six cells each -/
def RdAt (w : World) (ao : Option Addr) (l : List Ri) : Prop :=
  l = [] ∨ ∃ b off, ao = some ⟨b, off, none⟩ ∧ b < w.heap.size ∧ ∀ j, j < l.length → RdOne w b (off + j * 6) (l.getD j ri0)
theorem RdAt.below {w w' : World} {ao : Option Addr} {l : List Ri} (h : RdAt w ao l) (hb : Below w.heap.size w w') : RdAt w' ao l := by
  rcases h with h | ⟨b, off, rfl, hlt, hc⟩
  · exact .inl h
  · exact .inr ⟨b, off, rfl, Nat.lt_of_lt_of_le hlt hb.size, fun j hj => (hc j hj).below hlt hb⟩
theorem rdAt_of_owns {w : World} {base e : Nat} {v : Value} {n : Nat} {l : List Ri} (h : w.ownsRow base e 6 v n (encRs l)) : ∃ ao cap, v = .slice ao l.length cap ∧ RdAt w ao l := by
  obtain ⟨h1, h2⟩ := h
  simp only [encRs_length] at h1
  have hn : n = l.length := by omega
  subst hn
  rcases h2 with ⟨rfl, h0⟩ | ⟨g, cap, cur, rfl, hb, hh, h3, h4, h5, h6⟩
  · exact ⟨none, 0, by rw [h0], .inl (List.eq_nil_of_length_eq_zero h0)⟩
  · have hown : w.ownsRow base e 6 (.slice (some ⟨g, 0, none⟩) l.length cap) l.length (encRs l) := ⟨by simp [encRs_length], .inr ⟨g, cap, cur, rfl, hb, hh, h3, h4, h5, h6⟩⟩
    refine ⟨_, cap, rfl, .inr ⟨g, 0, rfl, (Array.getElem?_eq_some_iff.1 hh).1, fun j hj => ?_⟩⟩
    obtain ⟨f0, f1, f2, f3, f4, f5⟩ := encRs_get l j hj
    refine ⟨?_, ?_, ?_, ?_, ?_, ?_⟩
    · rw [Nat.zero_add, hown.cellAt (j * 6) (by omega)]; exact f0
    · rw [Nat.zero_add, hown.cellAt (j * 6 + 1) (by omega)]; exact f1
    · rw [Nat.zero_add, hown.cellAt (j * 6 + 2) (by omega)]; exact f2
    · rw [Nat.zero_add, hown.cellAt (j * 6 + 3) (by omega)]; exact f3
    · rw [Nat.zero_add, hown.cellAt (j * 6 + 4) (by omega)]; exact f4
    · rw [Nat.zero_add, hown.cellAt (j * 6 + 5) (by omega)]; exact f5
/-- six cells in a new block -/
theorem cells_six_newR (w : World) (B : Nat) (t : TypeId) (x y z u v s : Value) (hB : B = w.heap.size) : ∀ j q, [x, y, z, u, v, s][j]? = some q → (w.alloc (.cells #[x, y, z, u, v, s] t)).cell? ((⟨B, 0, none⟩ : Addr).add j) = some q := by
  subst hB
  intro j q hj
  match j, hj with
  | 0, hj => simp at hj; subst hj; simp [Addr.add]
  | 1, hj => simp at hj; subst hj; simp [Addr.add]
  | 2, hj => simp at hj; subst hj; simp [Addr.add]
  | 3, hj => simp at hj; subst hj; simp [Addr.add]
  | 4, hj => simp at hj; subst hj; simp [Addr.add]
  | 5, hj => simp at hj; subst hj; simp [Addr.add]

theorem nextF_own {g : Gr} (R : Right g) {j : Nat} (hj : j < g.edges.length) (d : Int) : nextF g (g.edges[j].1, d, 0) ((j : Int), d) = (lands g g.edges[j] d).map fun q => (g.edges[j].2.1, q.1, q.2) := by
  rw [nextF_at (h := ((j : Int), d)) rfl hj]
  cases hl : lands g g.edges[j] d with
  | none => split <;> simp
  | some q => rw [if_pos ⟨(lands_lt R hj hl).2.1, rfl, by simp only; omega⟩]; simp
theorem ridesAt_none {g : Gr} {d : Int} {j : Nat} (hj : j < g.edges.length) (h : lands g g.edges[j] d = none) : ridesAt g d (j + 1) = ridesAt g d j := by rw [ridesAt, edge_getD hj, h]; simp
theorem ridesAt_some {g : Gr} {d : Int} {j : Nat} (hj : j < g.edges.length) {q : Int × Int} (h : lands g g.edges[j] d = some q) : ridesAt g d (j + 1) = ridesAt g d j ++ [((j : Int), d, g.edges[j].1, g.edges[j].2.1, q.1, q.2)] := by rw [ridesAt, edge_getD hj, h]

set_option maxRecDepth 100000 in
set_option maxHeartbeats 8000000 in
theorem Rides_any (g : Gr) (la ea : Option Addr) (lc ec : Nat) (w : World) (hG : GAt w la ea g) (hR : Right g) :
    Calls Tryd.prog 34 #[.agg #[.int .i64 g.hor, .slice la g.lives.length lc, .slice ea g.edges.length ec]] w fun r w' => ∃ u, r = .returned u ∧ w'.ownsRow w.heap.size 68 6 u (ridesF g).length (encRs (ridesF g)) ∧ Below w.heap.size w w' := by
  obtain ⟨i0, hi, hz0, hz1, hz2⟩ := info_parts Tryd.infoRide
  obtain ⟨w1, hw1⟩ : ∃ x, x = w.alloc (.cells #[.int .i64 g.hor, .slice la g.lives.length lc, .slice ea g.edges.length ec] 25) := ⟨_, rfl⟩
  have B0 : GBx w w1 w.heap.size g la ea lc ec := by rw [hw1]; exact gbx_start w g la ea lc ec 25
  have hhor := hR.hor
  have hed := hR.eds
  have HRt := hideg hR
  have HG := hideg hG
  have HB1 := hideg B0
  have g0 := B0.c0
  have g2 := B0.c2
  have hw1s := hw1.symm
  have hH : Hid (ridesF g = ridesTo g g.hor.toNat) := rfl
  clear hR hG B0 hw1
  go_enter Tryd.func34, Tryd.ntmps34
  go_wp2_with fail
  clear hw1s
  go_loopw [3, 12] (fun u d wr => ∃ k : Nat, (k : Int) ≤ g.hor ∧ d = .int .i64 (k : Int) ∧ wr.ownsRow w1.heap.size 68 6 u (ridesTo g k).length (encRs (ridesTo g k)) ∧ Below w1.heap.size w1 wr) (fun _ d _ => (g.hor - intOf d).toNat)
  case atStart => exact ⟨0, by omega, by simp, World.ownsRow_nil _ _ _ _, Below.refl _ _⟩
  case round =>
    clear g0 g2
    obtain ⟨k, hk, rfl, hown, hb⟩ := hrel
    have BR := HB1.out.below hb
    have g0 := BR.c0
    have g2 := BR.c2
    have hol := ridesTo_len g k
    have hk100 : k ≤ 100 := by omega
    have hol' : (ridesTo g k).length ≤ 3000 := Nat.le_trans hol (Nat.le_trans (Nat.mul_le_mul hk100 hed) (by omega))
    by_cases hlt : (k : Int) < g.hor
    · obtain ⟨out, hout⟩ : ∃ o, o = ridesTo g k := ⟨_, rfl⟩
      rw [← hout] at hown hol'
      have HSucc : Hid (ridesTo g (k + 1) = out ++ ridesAt g (k : Int) g.edges.length) := by show _ = _; rw [hout]; rfl
      clear hout hol
      obtain ⟨wo, hwo⟩ : ∃ x, x = wr := ⟨_, rfl⟩
      have hown0 : wo.ownsRow w1.heap.size 68 6 u3 out.length (encRs out) := by rw [hwo]; exact hown
      have hbo : Below w1.heap.size w1 wo := by rw [hwo]; exact hb
      rw [← hwo] at g0 g2 ⊢
      clear hown hb hwo BR
      have hw1' : IntKind.i64.wrap ((k : Int) + 1) = (k : Int) + 1 := wrap_nj _ (by omega) (by omega)
      go_wp2_with fail
      go_loopw [3, 18] (fun u i wr => ∃ j : Nat, j ≤ g.edges.length ∧ i = .int .i64 j ∧ wr.ownsRow w1.heap.size 68 6 u (out ++ ridesAt g (k : Int) j).length (encRs (out ++ ridesAt g (k : Int) j)) ∧ Below w1.heap.size w1 wr) (fun _ i _ => g.edges.length - (intOf i).toNat)
      case atStart => exact ⟨0, Nat.zero_le _, rfl, by simpa [ridesAt] using hown0, hbo⟩
      case round =>
        clear hown0 hbo g0 g2
        obtain ⟨j, hj, rfl, hown, hb⟩ := hrel
        have BR := HB1.out.below hb
        have hoa := ridesAt_len g (k : Int) j
        by_cases hjl : j < g.edges.length
        · obtain ⟨b, off, lo, lcap, rfl, hbr, e0, e1, e2, _⟩ : ∃ b off lo lcap, ea = some ⟨b, off, none⟩ ∧ b < wr.heap.size ∧ wr.cell? ⟨b, off + j * 3, none⟩ = some (.int .i64 g.edges[j].1) ∧ wr.cell? ⟨b, off + j * 3 + 1, none⟩ = some (.int .i64 g.edges[j].2.1) ∧ wr.cell? ⟨b, off + j * 3 + 2, none⟩ = some (.slice lo g.edges[j].2.2.length lcap) ∧ LgAt wr lo g.edges[j].2.2 := by
            rcases (HG.out.below BR.bel).ed with h0 | ⟨b, off, rfl, hbr, hc⟩
            · rw [h0] at hjl; simp at hjl
            obtain ⟨c0, c1, lo, lcap, c2, hL, _, _⟩ := hc j hjl
            exact ⟨b, off, lo, lcap, rfl, hbr, c0, c1, c2, hL⟩
          obtain ⟨hA, hBe, _⟩ := HRt.out.ends _ (List.getElem_mem hjl)
          obtain ⟨p, hp, hNx⟩ := next_any g la (some ⟨b, off, none⟩) lc ec (g.edges[j].1, (k : Int), 0) ((j : Int), (k : Int)) HRt.out hA.1 hA.2 (by simp) (by simp)
          rw [nextF_own HRt.out hjl] at hp hNx
          simp only at hNx
          unfold nextV at hNx
          obtain ⟨wb, hwb⟩ : ∃ x, x = (wr.alloc (.cells #[.int .i64 g.edges[j].1, .int .i64 g.edges[j].2.1, .slice lo g.edges[j].2.2.length lcap] 54)).alloc (.cells #[.int .i64 (j : Int), .int .i64 (k : Int)] 43) := ⟨_, rfl⟩
          have hbw : Below wr.heap.size wr wb := by rw [hwb]; exact ptg (gal _ _) (gal _ _)
          have hBb := BR.below hbw
          have hNw := hNx wb (HG.out.below hBb.bel)
          have ga0 := hBb.c0
          have ga1 := hBb.c1
          have ga2 := hBb.c2
          have gb0 := BR.c2
          have f0 : wb.cell? ⟨wr.heap.size, 0, none⟩ = some (.int .i64 g.edges[j].1) := by rw [hwb, (gal _ _).cell (by simp)]; exact new_cell rfl rfl
          have f1 : wb.cell? ⟨wr.heap.size + 1, 0, none⟩ = some (.int .i64 (j : Int)) := by rw [hwb]; exact new_cell (by simp) rfl
          have f2 : wb.cell? ⟨wr.heap.size + 1, 1, none⟩ = some (.int .i64 (k : Int)) := by rw [hwb]; exact new_cell (by simp) rfl
          have hwbs : wr.heap.size + 1 < wb.heap.size := by rw [hwb]; simp
          have hll : (out ++ ridesAt g (k : Int) j).length ≤ 4000 := by rw [List.length_append]; omega
          have HOW : Hid (∀ W, Below wb.heap.size wb W → W.ownsRow w1.heap.size 68 6 u3 (out ++ ridesAt g (k : Int) j).length (encRs (out ++ ridesAt g (k : Int) j)) ∧ Below w1.heap.size w1 W) := fun W h => ⟨ownsRow_below hown (ptg hbw h), hb.trans ((ptg hbw h).mono hb.size)⟩
          have HN := hideg (ridesAt_none (g := g) (d := (k : Int)) hjl)
          have HY := hideg (fun q => ridesAt_some (g := g) (d := (k : Int)) hjl (q := q))
          clear hown hb hNx hBb
          generalize hcur : out ++ ridesAt g (k : Int) j = cur at *
          have HCur := hideg hcur
          have hwbs' := hwb.symm
          clear hcur BR hwb
          cases hs : lands g g.edges[j] (k : Int) with
          | none =>
            rw [hs] at hNw
            simp only [Option.map_none, Option.isSome_none] at hNw
            have HE := hideg (HN.out hs)
            clear hs hp HN HY hA hBe
            generalize g.edges[j] = ed at *
            go_wp2_with fail
            refine hNw.mono ?_
            rintro r w3 ⟨rfl, hb3⟩
            have HO2 := hideg (fun o => HOW.out (w3.alloc o) (ptg hb3 (gal w3 o)))
            clear hNw hb3 e0 e1 e2 ga0 ga1 ga2 gb0 HOW f0 f1 f2 hbw
            go_wp2
            go_roundw
            case rel => exact ⟨j + 1, by omega, by go_num, by rw [HE.out, HCur.out]; exact (HO2.out _).1, (HO2.out _).2⟩
            case measure => simp [intOf]; omega
          | some q =>
            rw [hs] at hNw hp
            simp only [Option.map_some, Option.isSome_some] at hNw
            have hp := hp _ rfl
            subst hp
            simp only at hNw
            have HE := hideg (HY.out q hs)
            clear hs HN HY hA hBe
            generalize g.edges[j] = ed at *
            go_wp2_with fail
            refine hNw.mono ?_
            rintro r w3 ⟨rfl, hb3⟩
            obtain ⟨w4, hw4⟩ : ∃ x, x = w3.alloc (.cells #[.int .i64 ed.2.1, .int .i64 q.1, .int .i64 q.2] 105) := ⟨_, rfl⟩
            have hb4 : Below wb.heap.size wb w4 := by rw [hw4]; exact ptg hb3 (gal w3 _)
            obtain ⟨o1, o2⟩ := HOW.out w4 hb4
            have x0 := (hb4.cell (p := ⟨wr.heap.size, 0, none⟩) (by simp only; omega)).trans f0
            have x1 := (hb4.cell (p := ⟨wr.heap.size + 1, 0, none⟩) (by simp only; omega)).trans f1
            have x2 := (hb4.cell (p := ⟨wr.heap.size + 1, 1, none⟩) (by simp only; omega)).trans f2
            have x3 : w4.cell? ⟨w3.heap.size, 0, none⟩ = some (.int .i64 ed.2.1) := by rw [hw4]; exact new_cell rfl rfl
            have x4 : w4.cell? ⟨w3.heap.size, 1, none⟩ = some (.int .i64 q.1) := by rw [hw4]; exact new_cell rfl rfl
            have x5 : w4.cell? ⟨w3.heap.size, 2, none⟩ = some (.int .i64 q.2) := by rw [hw4]; exact new_cell rfl rfl
            have hs4 := hb4.size
            have hs5 := o2.size
            have hs6 : w3.heap.size < w4.heap.size := by rw [hw4]; simp
            have HBg : Hid (∀ (o : Obj) (w5 : World), (w4.alloc o).grownBy w5 u3.ownBlock → Below w1.heap.size w1 w5) := fun o w5 hgr => (o2.alloc o2.size o).grown hgr (by have := o2.size; simp at this ⊢; omega) (fun k hk => (o1.lt k hk).1)
            have hw4s := hw4.symm
            clear hNw hb3 e0 e1 e2 ga0 ga1 ga2 gb0 HOW f0 f1 f2 hbw hb4 hw4 hwbs'
            go_wp2_with (at_builtin; refine stopHereR ?_)
            refine hideg ?_
            refine wpList_append_own _ rfl _ _ 61 rfl w1.heap.size 68 i0 _ 6 48 Tryd.underlying61 hi hz0 hz1 hz2 rfl (by decide) _ _ _ rfl (World.ownsRow.alloc (w := w4) o1 _) ⟨w4.heap.size, 0, none⟩ 1 1 [.int .i64 j, .int .i64 k, .int .i64 ed.1, .int .i64 ed.2.1, .int .i64 q.1, .int .i64 q.2] rfl rfl (cells_six_newR _ _ _ _ _ _ _ _ _ (by simp)) (by intro u hu; simp at hu; rcases hu with rfl | rfl | rfl | rfl | rfl | rfl <;> rfl) (by unfold maxLen; omega) (by omega) (by simp; omega) ?_
            intro v' w5 hown5 hgrow _
            have hb' := HBg.out _ _ hgrow
            have R : w5.ownsRow w1.heap.size 68 6 v' (out ++ ridesAt g (k : Int) (j + 1)).length (encRs (out ++ ridesAt g (k : Int) (j + 1))) := by
              rw [HE.out, ← List.append_assoc, HCur.out, encRs_append, List.length_append]; exact hown5
            clear hgrow o1 hown5 x0 x1 x2 x3 x4 x5 hw4s
            go_wp2
            go_roundw
            case rel => exact ⟨j + 1, by omega, by go_num, R, hb'⟩
            case measure => simp [intOf]; omega
        · have hjn : j = g.edges.length := by omega
          subst hjn
          rw [← HSucc.out] at hown
          clear BR
          go_wp2
          go_roundw
          case rel => exact ⟨k + 1, by omega, by go_num, hown, hb⟩
          case measure => simp [intOf]; omega
    · have hke : k = g.hor.toNat := by omega
      rw [hke, ← hH.out] at hown
      have R := owns_base2 hown HB1.out.bel.size
      have hbF := BR.bel
      clear hown hke BR
      go_wp2
      go_ret
      exact ⟨_, rfl, R, hbF⟩

end Go.Proofs.YtjjhhmlogddnkaiDoor
