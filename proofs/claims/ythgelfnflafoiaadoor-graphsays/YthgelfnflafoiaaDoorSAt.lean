/-
  What At of the program's graphs answers.
-/
import Derived.Test.YthgelfnflafoiaaDoorSnap
import Derived.Test.YthgelfnflafoiaaDoorPop
namespace Go.Proofs.YthgelfnflafoiaaDoor
open Go.RowKit

/-- what a call that tells a snapshot and an error hands back -/
def SnapOut (w w' : World) (e : Ending) (n : Int) (al : List Bool) (ar : List (Int × Int × Int)) : Prop :=
  ∃ ao ca bo cb, e = .returned (.tuple #[.agg #[.slice ao al.length ca, .slice bo ar.length cb], .int .i64 n]) ∧ BsAt w' ao al ∧ PcAt w' bo ar ∧ Below w.heap.size w w'
theorem own_ne {w : World} {base e size : Nat} {v : Value} {n : Nat} {xs : List Value} {b : Nat} {cs : Array Value} {T : TypeId} {fr : Nat × Nat} (h : w.ownsRow base e size v n xs) (hb : w.heap[b]? = some (.cells cs T fr)) (hT : T ≠ e) : v.ownBlock ≠ some b := by
  rcases h.2 with ⟨rfl, _⟩ | ⟨g, cap, cur, rfl, _, hg, _⟩
  · simp [Value.ownBlock]
  · intro h
    simp only [Value.ownBlock, Option.some.injEq] at h
    subst h
    rw [hg] at hb
    simp only [Option.some.injEq, Obj.cells.injEq] at hb
    exact hT hb.2.1.symm
theorem heap_lt {w : World} {b : Nat} {o : Obj} (h : w.heap[b]? = some o) : b < w.heap.size := by
  rcases Nat.lt_or_ge b w.heap.size with k | k
  · exact k
  · rw [Array.getElem?_eq_none k] at h; simp at h
theorem has_one (p : Int × Int) (t : Int) : has [p] t = hasB p.1 p.2 t := by
  rw [has_cons, has_nil, Bool.or_false]; rfl
theorem frozen_at {w : World} {b : Nat} {cs : Array Value} {T : TypeId} (h : w.heap[b]? = some (.cells cs T (0, 0))) (j : Nat) : w.frozen? ⟨b, j, none⟩ = false := Lib.frozen_of_heap h j

theorem ownsRow_setBox {w : World} {base e size : Nat} {v : Value} {n : Nat} {xs : List Value} {b j : Nat} {u : Value} (h : w.ownsRow base e size v n xs) (hne : v.ownBlock ≠ some b) : (w.setCell ⟨b, j, none⟩ u).ownsRow base e size v n xs :=
  h.kept (row := some b) ⟨rfl, rfl, rfl, by simp [World.setCell], fun k _ hk => Below.heap_setCell _ _ _ _ (fun e => hk (by simp [e]))⟩ (Or.inr hne)
/-- a row of another type is kept while one grows -/
theorem ownsRow_grown {w w' : World} {base e e' size size' : Nat} {v v' : Value} {n n' : Nat} {xs xs' : List Value} (h : w.ownsRow base e size v n xs) (h' : w.ownsRow base e' size' v' n' xs') (hg : w.grownBy w' v'.ownBlock) (hne : e ≠ e') : w'.ownsRow base e size v n xs := by
  refine h.kept hg ?_
  cases hv : v.ownBlock with
  | none => simp
  | some b =>
    rcases h.2 with ⟨rfl, _⟩ | ⟨g, cap, cur, rfl, _, hb, _⟩
    · simp [Value.ownBlock] at hv
    · simp only [Value.ownBlock, Option.some.injEq] at hv
      subst hv
      refine .inr fun k => ?_
      exact own_ne h' hb hne k.symm
/-- where the snapshot lies while it is made -/
structure SnIn (sb : Nat) (w1 wr : World) (v u : Value) (al : List Bool) (ar : List (Int × Int × Int)) : Prop where
  own : wr.ownsRow w1.heap.size 4 1 v al.length (al.map Value.bool)
  own2 : wr.ownsRow w1.heap.size 42 3 u ar.length (enc3 ar)
  box : wr.heap[sb]? = some (.cells #[v, u] 34 (0, 0))
  bel : Below w1.heap.size w1 wr

set_option linter.unusedSimpArgs false in
set_option maxRecDepth 100000 in
set_option maxHeartbeats 8000000 in
theorem At_any (g : Gr) (la ea : Option Addr) (lc ec : Nat) (t : Int) (w : World) (hG : GAt w la ea g) (hlc : g.lives.length ≤ lc) (hlm : lc ≤ 9223372036854775807) :
    Calls Tryd.prog 8 #[.agg #[.int .i64 g.hor, .slice la g.lives.length lc, .slice ea g.edges.length ec], .int .i64 t] w fun r w' => SnapOut w w' r (atErr g t) (if atErr g t = 0 then aliveL t g.lives else []) (if atErr g t = 0 then arcsL t g.lives g.edges else []) := by
  have HB : Hid (∀ o o', Below w.heap.size w ((w.alloc o).alloc o')) := fun o o' => ptg (gal w o) (gal _ o')
  obtain ⟨i0, hi, hb0, hb1', hb2'⟩ := info_parts Tryd.infoBool
  obtain ⟨ia, hia, ha0, ha1, ha2⟩ := info_parts Tryd.infoArc
  have hC := fun o o' => gCheck_any g la ea lc ec ((w.alloc o).alloc o') (hG.below (ptg (gal w o) (gal _ o')))
  by_cases h0 : gChk g = 0
  · cases h1 : inR t 0 (g.hor - 1)
    · have he : atErr g t = 1 := by unfold atErr; rw [if_pos h0, h1]; rfl
      have R := (gChk_right h0).hor
      rw [he, if_neg (by decide), if_neg (by decide)]
      rw [h0] at hC
      clear h0 hG he
      obtain ⟨h, lives, edges⟩ := g
      simp only at hC h1 R ⊢
      have HHOR := hideg R
      go_enter Tryd.func8, Tryd.ntmps8
      go_wp2_with fail
      refine (hC _ _).mono ?_
      rintro e w0 ⟨rfl, hb0⟩
      have p0 : w0.cell? ⟨w.heap.size, 0, none⟩ = some (.int .i64 h) := by rw [hb0.cell (p := ⟨w.heap.size, 0, none⟩) (by simp; omega)]; simp
      have p1 : w0.cell? ⟨w.heap.size, 1, none⟩ = some (.slice la lives.length lc) := by rw [hb0.cell (p := ⟨w.heap.size, 1, none⟩) (by simp; omega)]; simp
      have p2 : w0.cell? ⟨w.heap.size, 2, none⟩ = some (.slice ea edges.length ec) := by rw [hb0.cell (p := ⟨w.heap.size, 2, none⟩) (by simp; omega)]; simp
      have hHT := fun W => gHasT_any h la ea lives.length lc edges.length ec t W HHOR.out.1 HHOR.out.2
      rw [h1] at hHT
      have HB0 := hideg hb0
      clear hC hb0
      go_wp2_with fail
      refine (hHT _).mono ?_
      rintro e w1 ⟨rfl, hbT⟩
      have hb1 := HB0.out.trans (hbT.mono HB0.out.size)
      clear hHT hbT p0 p1 p2 HB0
      have HB1 := hideg (ptg (HB.out _ _) hb1)
      have hz := hb1.size
      simp only [World.size_alloc] at hz
      have q0 : w1.cell? ⟨w.heap.size, 0, none⟩ = some (.int .i64 h) := by rw [hb1.cell (p := ⟨w.heap.size, 0, none⟩) (by simp; omega)]; simp
      have r0 : w1.cell? ⟨w.heap.size + 1, 0, none⟩ = some (.slice none 0 0) := by rw [hb1.cell (p := ⟨w.heap.size + 1, 0, none⟩) (by simp)]; simp
      have r1 : w1.cell? ⟨w.heap.size + 1, 1, none⟩ = some (.slice none 0 0) := by rw [hb1.cell (p := ⟨w.heap.size + 1, 1, none⟩) (by simp)]; simp
      have f0 : ∀ j, w1.frozen? ⟨w.heap.size + 1, j, none⟩ = false := fun j => by rw [hb1.frozen (p := ⟨w.heap.size + 1, j, none⟩) (by simp)]; simp
      clear hb1
      go_wp2
      refine bodyPost_ret (v := .tuple #[.agg #[.slice none 0 0, .slice none 0 0], .int .i64 1]) (by simp [results, Tryd.results8, go_sem, r0, r1]) rfl ⟨none, 0, none, 0, rfl, .inl rfl, .inl rfl, ?_⟩
      exact (HB1.out.setCell (p := ⟨w.heap.size + 1, 0, none⟩) (by simp) _).setCell (p := ⟨w.heap.size + 1, 1, none⟩) (by simp) _
    · have he : atErr g t = 0 := by unfold atErr; rw [if_pos h0, h1]; rfl
      have R := (gChk_right h0)
      rw [he, if_pos rfl, if_pos rfl]
      rw [h0] at hC
      have HG := hideg hG
      have HR := hideg R
      clear h0 hG he
      obtain ⟨h, lives, edges⟩ := g
      have hh := R.hor
      have hl12 : lives.length ≤ 12 := R.lvs
      have he30 : edges.length ≤ 30 := R.eds
      simp only at hC h1 hh hlc ⊢
      have HHOR := hideg hh
      clear R
      go_enter Tryd.func8, Tryd.ntmps8
      go_wp2_with fail
      refine (hC _ _).mono ?_
      rintro e w0 ⟨rfl, hb0⟩
      have p0 : w0.cell? ⟨w.heap.size, 0, none⟩ = some (.int .i64 h) := by rw [hb0.cell (p := ⟨w.heap.size, 0, none⟩) (by simp; omega)]; simp
      have p1 : w0.cell? ⟨w.heap.size, 1, none⟩ = some (.slice la lives.length lc) := by rw [hb0.cell (p := ⟨w.heap.size, 1, none⟩) (by simp; omega)]; simp
      have p2 : w0.cell? ⟨w.heap.size, 2, none⟩ = some (.slice ea edges.length ec) := by rw [hb0.cell (p := ⟨w.heap.size, 2, none⟩) (by simp; omega)]; simp
      have hHT := fun W => gHasT_any h la ea lives.length lc edges.length ec t W HHOR.out.1 HHOR.out.2
      rw [h1] at hHT
      have HB0 := hideg hb0
      clear hC hb0
      go_wp2_with fail
      refine (hHT _).mono ?_
      rintro e w1 ⟨rfl, hbT⟩
      have hb1 := HB0.out.trans (hbT.mono HB0.out.size)
      clear hHT hbT p0 p1 p2 HB0
      have HB1 := hideg (ptg (HB.out _ _) hb1)
      have hz := hb1.size
      simp only [World.size_alloc] at hz
      have q0 : w1.cell? ⟨w.heap.size, 0, none⟩ = some (.int .i64 h) := by rw [hb1.cell (p := ⟨w.heap.size, 0, none⟩) (by simp; omega)]; simp
      have q1 : w1.cell? ⟨w.heap.size, 1, none⟩ = some (.slice la lives.length lc) := by rw [hb1.cell (p := ⟨w.heap.size, 1, none⟩) (by simp; omega)]; simp
      have q2 : w1.cell? ⟨w.heap.size, 2, none⟩ = some (.slice ea edges.length ec) := by rw [hb1.cell (p := ⟨w.heap.size, 2, none⟩) (by simp; omega)]; simp
      have r0 : w1.cell? ⟨w.heap.size + 1, 0, none⟩ = some (.slice none 0 0) := by rw [hb1.cell (p := ⟨w.heap.size + 1, 0, none⟩) (by simp)]; simp
      have r1 : w1.cell? ⟨w.heap.size + 1, 1, none⟩ = some (.slice none 0 0) := by rw [hb1.cell (p := ⟨w.heap.size + 1, 1, none⟩) (by simp)]; simp
      have f0 : ∀ j, w1.frozen? ⟨w.heap.size + 1, j, none⟩ = false := fun j => by rw [hb1.frozen (p := ⟨w.heap.size + 1, j, none⟩) (by simp)]; simp
      have HG1 := hideg (HG.out.below HB1.out)
      have HRes := hideg (⟨r0, r1, f0⟩ : _ ∧ _ ∧ _)
      have hz0 : w.heap.size < w1.heap.size := by omega
      clear hb1 HG r0 r1 f0
      go_wp2_with fail
      go_loopw [8, 27] (fun _ i wr => ∃ k : Nat, ∃ v, k ≤ lives.length ∧ i = .int .i64 k ∧ SnIn w1.heap.size w1 wr v (.slice none 0 0) (aliveL t (lives.take k)) []) (fun _ i _ => lives.length - (intOf i).toNat)
      case atStart => exact ⟨0, _, Nat.zero_le _, rfl, World.ownsRow_nil _ _ _ _, World.ownsRow_nil _ _ _ _, heap_alloc_new _ _, gal _ _⟩
      case round =>
        obtain ⟨k, v, hk, rfl, hS⟩ := hrel
        have HS := hideg hS
        have hbw := hS.bel
        have hsz := hbw.size
        have hsb := heap_lt hS.box
        have p1 : wr.cell? ⟨w.heap.size, 1, none⟩ = some (.slice la lives.length lc) := (hbw.cell (p := ⟨w.heap.size, 1, none⟩) hz0).trans q1
        have s0 : wr.cell? ⟨w1.heap.size, 0, none⟩ = some v := by rw [Lib.cell_of_heap hS.box]; rfl
        clear hS
        by_cases hlt : k < lives.length
        · rcases HG1.out.lv.below hbw with h0 | ⟨b, off, rfl, hbr, hc⟩
          · simp only at h0; subst h0; simp at hlt
          simp only at hc
          obtain ⟨c0, c1⟩ := IvAt.get hlt hc
          have hHas : Hid (∀ cap, Calls Tryd.prog 21 #[.slice (some ⟨b, off + k * 2, none⟩) 1 cap, .int .i64 t] wr.drew fun e w' => e = .returned (.bool (hasB lives[k].1 lives[k].2 t)) ∧ Below wr.heap.size wr w') := by
            intro cap
            have := Has_any (some ⟨b, off + k * 2, none⟩) cap [lives[k]] t wr.drew (.inr ⟨b, off + k * 2, rfl, hbr, fun j hj => by
              match j, hj with
              | 0, _ => exact ⟨c0, c1⟩⟩) (by simp)
            rw [has_one] at this
            exact this.mono fun _ _ ⟨a, b⟩ => ⟨a, ptg (Below.refl _ _).drew b⟩
          have HT := hideg (aliveL_take t lives k hlt)
          obtain ⟨vo, vc, hve, _⟩ := bsAt_of_owns HS.out.own
          have hal : (aliveL t (lives.take k)).length = k := by rw [aliveL_length, List.length_take]; omega
          have hown : wr.ownsRow w1.heap.size 4 1 v k ((aliveL t (lives.take k)).map Value.bool) := by have := HS.out.own; rwa [hal] at this
          have HO := hideg hown
          rw [hal] at hve
          subst hve
          have HNE := hideg (own_ne hown HS.out.box (by decide))
          have HAfter : Hid (∀ w3, Below wr.heap.size wr w3 → w3.cell? ⟨w.heap.size, 1, none⟩ = some (.slice (some ⟨b, off, none⟩) lives.length lc) ∧ w3.cell? ⟨w1.heap.size, 0, none⟩ = some (.slice vo k vc)) := fun w3 h3 =>
            ⟨(h3.cell (p := ⟨w.heap.size, 1, none⟩) (by simp only; omega)).trans p1, (h3.cell (p := ⟨w1.heap.size, 0, none⟩) hsb).trans s0⟩
          clear hc hown hal c0 c1
          generalize hasB lives[k].1 lives[k].2 t = bb at *
          have i1 : (k : Int) + 1 ≤ (lc : Int) := by omega
          have i2 : (0 : Int) ≤ (k : Int) := by omega
          have i3 : (0 : Int) ≤ (k : Int) + 1 := by omega
          have i4 : IntKind.i64.wrap ((k : Int) + 1) = (k : Int) + 1 := wrap_small _ (by omega) (by omega)
          have i5 : ((k : Int) + 1).toNat = k + 1 := by omega
          have i6 : ¬ lc = k := by omega
          go_wp2_with fail
          refine wp_region_noPanic ?_
          refine wp_region_back (S := fun w' => w'.cell? ⟨w.heap.size, 1, none⟩ = some (.slice (some ⟨b, off, none⟩) lives.length lc) ∧ w'.cell? ⟨w1.heap.size, 0, none⟩ = some (.slice vo k vc)) (by kernel_rfl) (by simp) (by kernel_rfl) (by kernel_rfl) ⟨p1, s0⟩ (fun hHeld => ?_)
          simp only [List.pop_toArray, List.dropLast, List.back!_toArray, List.getLast!]
          refine take_lit (i := 0) (v := ?_) rfl (by kernel_rfl) (by kernel_rfl) (by kernel_rfl) (fun _ _ _ h => h) (Or.inl ⟨by rfl, ?hy0⟩) (by assumption) ?_
          case hy0 => (intro w hSw; (try dsimp only at hSw); go_simp; try with_reducible rfl)
          try simp only [Act.put, List.setIfInBounds_toArray, List.set_cons_zero, List.set_cons_succ]
          refine take_lit (i := 1) (v := ?_) rfl (by kernel_rfl) (by kernel_rfl) (by kernel_rfl) (fun _ _ _ h => h) (Or.inl ⟨by rfl, ?hy1⟩) (by assumption) ?_
          case hy1 => (intro w hSw; (try dsimp only at hSw); go_simp; try with_reducible rfl)
          try simp only [Act.put, List.setIfInBounds_toArray, List.set_cons_zero, List.set_cons_succ]
          refine take_lit (i := 2) (v := ?_) rfl (by kernel_rfl) (by kernel_rfl) (by kernel_rfl) (fun _ _ _ h => h) (Or.inl ⟨by rfl, ?hy2⟩) (by assumption) ?_
          case hy2 => (intro w hSw; (try dsimp only at hSw); go_simp; try with_reducible rfl)
          try simp only [Act.put, List.setIfInBounds_toArray, List.set_cons_zero, List.set_cons_succ]
          refine take_lit (i := 3) (v := ?_) rfl (by kernel_rfl) (by kernel_rfl) (by kernel_rfl) (fun _ _ _ h => h) (Or.inl ⟨by rfl, ?hy3⟩) (by assumption) ?_
          case hy3 => (intro w hSw; (try dsimp only at hSw); go_simp; try with_reducible rfl)
          try simp only [Act.put, List.setIfInBounds_toArray, List.set_cons_zero, List.set_cons_succ]
          refine take_lit (i := 4) (v := ?_) rfl (by kernel_rfl) (by kernel_rfl) (by kernel_rfl) (fun _ _ _ h => h) (Or.inl ⟨by rfl, ?hy4⟩) (by assumption) ?_
          case hy4 => (intro w hSw; (try dsimp only at hSw); go_simp; try with_reducible rfl)
          try simp only [Act.put, List.setIfInBounds_toArray, List.set_cons_zero, List.set_cons_succ]
          refine take_lit (i := 5) (v := ?_) rfl (by kernel_rfl) (by kernel_rfl) (by kernel_rfl) (fun _ _ _ h => h) (Or.inl ⟨by rfl, ?hy5⟩) (by assumption) ?_
          case hy5 => (intro w hSw; (try dsimp only at hSw); go_simp; try with_reducible rfl)
          try simp only [Act.put, List.setIfInBounds_toArray, List.set_cons_zero, List.set_cons_succ]
          refine take_lit (i := 6) (v := ?_) rfl (by kernel_rfl) (by kernel_rfl) (by kernel_rfl) (fun _ _ _ h => h) (Or.inl ⟨by rfl, ?hy6⟩) (by assumption) ?_
          case hy6 => (intro w hSw; (try dsimp only at hSw); go_simp; try with_reducible rfl)
          try simp only [Act.put, List.setIfInBounds_toArray, List.set_cons_zero, List.set_cons_succ]
          refine take_lit (i := 7) (v := ?_) rfl (by kernel_rfl) (by kernel_rfl) (by kernel_rfl) (fun _ _ _ h => h) (Or.inl ⟨by rfl, ?hy7⟩) (by assumption) ?_
          case hy7 => (intro w hSw; (try dsimp only at hSw); go_simp; try with_reducible rfl)
          try simp only [Act.put, List.setIfInBounds_toArray, List.set_cons_zero, List.set_cons_succ]
          refine take_lit (i := 8) (v := ?_) rfl (by kernel_rfl) (by kernel_rfl) (by kernel_rfl) (fun _ _ _ h => h) (Or.inl ⟨by rfl, ?hy8⟩) (by assumption) ?_
          case hy8 => (intro w hSw; (try dsimp only at hSw); go_simp; try with_reducible rfl)
          try simp only [Act.put, List.setIfInBounds_toArray, List.set_cons_zero, List.set_cons_succ]
          refine next_lit (i := 9) rfl (by kernel_rfl) (fun K hK => ?_)
          go_simp
          refine (hHas.out _).mono ?_
          rintro e w3 ⟨rfl, hb3⟩
          obtain ⟨k1, k2⟩ := HAfter.out w3 hb3
          refine hK.out _ _ ⟨k1, k2⟩ (fun hHeld => ?_)
          clear hK K hHeld
          try simp only [Act.put, List.setIfInBounds_toArray, List.set_cons_zero, List.set_cons_succ]
          refine next_lit (i := 10) rfl (by kernel_rfl) (fun K hK => ?_)
          go_simp
          have l1 := heap_lt (HS.out.box)
          have hs3 := hb3.size
          have m1 := ((gal w3 (.cells #[.bool bb] 4)).cell (p := ⟨w.heap.size, 1, none⟩) (by simp only; omega)).trans k1
          have m2 := ((gal w3 (.cells #[.bool bb] 4)).cell (p := ⟨w1.heap.size, 0, none⟩) (by simp only; omega)).trans k2
          refine hK.out _ _ ⟨m1, m2⟩ (fun hHeld => ?_)
          clear hK K hHeld
          try simp only [Act.put, List.setIfInBounds_toArray, List.set_cons_zero, List.set_cons_succ]
          refine next_lit (i := 11) rfl (by kernel_rfl) (fun K hK => ?_)
          refine step_append_lies _ (by rfl) _ _ _ (by rfl) w1.heap.size 4 i0 _ 1 1 Tryd.underlying31 hi hb0 hb1' hb2' rfl (by omega) (.slice vo k vc) k ((aliveL t (lives.take k)).map Value.bool) (by rfl) ((ownsRow_below HO.out hb3).alloc _) ⟨w3.heap.size, 0, none⟩ 1 1 [.bool bb] (by rfl) (by rfl) (World.news_of_block (cs := #[.bool bb]) (t := 4) (fr := (0, 0)) (heap_alloc_new w3 _)) (by simp [Value.oneCell']) (by omega) (by unfold maxLen; omega) (by omega) (by simp; omega) (w3.heap.size + 1) (by simp) ?_
          intro gg cap1 w4 hown1 hgrow hat hltg
          have n1 : some w.heap.size ≠ (Value.slice vo k vc).ownBlock := fun h => by have := (HO.out.lt _ h.symm).1; omega
          have x1 : w4.cell? ⟨w.heap.size, 1, none⟩ = some (.slice (some ⟨b, off, none⟩) lives.length lc) := by rw [hgrow.cell_far _ (by simp; omega) n1]; exact m1
          have x2 : w4.cell? ⟨w1.heap.size, 0, none⟩ = some (.slice vo k vc) := by rw [hgrow.cell_far _ (by simp; omega) (Ne.symm HNE.out)]; exact m2
          have hbox4 : w4.heap[w1.heap.size]? = some (.cells #[.slice vo k vc, .slice none 0 0] 34 (0, 0)) := by
            rw [hgrow.block _ (by simp; omega) (Ne.symm HNE.out), (gal w3 _).block _ (by omega), hb3.block _ l1]; exact HS.out.box
          have fz4 := frozen_at hbox4 0
          have HB4 := hideg (((hbw.trans (hb3.mono hbw.size)).alloc (by omega) (.cells #[.bool bb] 4)).grown hgrow (by simp; omega) (fun j hj => (HO.out.lt j hj).1))
          refine hK.out _ _ ⟨x1, x2⟩ (fun hHeld => ?_)
          clear hK K
          try simp only [Act.put, List.setIfInBounds_toArray, List.set_cons_zero, List.set_cons_succ]
          refine take_lit (i := 12) (v := ?_) rfl (by kernel_rfl) (by kernel_rfl) (by kernel_rfl) (fun _ _ _ h => h) (Or.inl ⟨by rfl, ?hy12⟩) (by assumption) ?_
          case hy12 => (intro w hSw; (try dsimp only at hSw); go_simp; try with_reducible rfl)
          try simp only [Act.put, List.setIfInBounds_toArray, List.set_cons_zero, List.set_cons_succ]
          refine wpAnyH_done (by kernel_rfl) ?_ _
          refine back_last (fun K hK => ?_)
          clear hHeld
          go_simp
          refine hK.out _ _ (NoPanic.normal ?_)
          clear hK K
          have HS4 : Hid (SnIn w1.heap.size w1 (w4.setCell ⟨w1.heap.size, 0, none⟩ (.slice (some ⟨gg, 0, none⟩) (k + 1) cap1)) (.slice (some ⟨gg, 0, none⟩) (k + 1) cap1) (.slice none 0 0) (aliveL t (lives.take (k + 1))) []) := by
            have hr : w4.ownsRow w1.heap.size 4 1 (.slice (some ⟨gg, 0, none⟩) (k + 1) cap1) (aliveL t (lives.take (k + 1))).length ((aliveL t (lives.take (k + 1))).map Value.bool) := by
              rw [aliveL_length, List.length_take, Nat.min_eq_left (by omega), HT.out, List.map_append]; exact hown1
            have hne := own_ne hr hbox4 (by decide)
            refine ⟨ownsRow_setBox hr hne, World.ownsRow_nil _ _ _ _, ?_, HB4.out.setCell (p := ⟨w1.heap.size, 0, none⟩) (Nat.le_refl _) _⟩
            simp [World.setCell, Array.getElem?_modify, hbox4]
          clear HB4 hgrow hown1 x1 x2 m1 m2 k1 k2 hbox4 hat hltg
          go_wp2
          go_roundw
          case rel => exact ⟨k + 1, _, by omega, by go_num, HS4.out⟩
          case measure => simp [intOf]; omega
        · have hke : k = lives.length := by omega
          subst hke
          rw [List.take_length] at HS
          have p2 : wr.cell? ⟨w.heap.size, 2, none⟩ = some (.slice ea edges.length ec) := (hbw.cell (p := ⟨w.heap.size, 2, none⟩) hz0).trans q2
          have HV := hideg (bsAt_of_owns HS.out.own)
          have hal : (aliveL t lives).length = lives.length := aliveL_length t lives
          have HVV : Hid (∃ vo vc, v = .slice vo lives.length vc) := by
            obtain ⟨ao, ca, h, _⟩ := HV.out
            exact ⟨ao, ca, by rw [h, hal]⟩
          clear HV s0 hbw
          obtain ⟨vo, vc, rfl⟩ := HVV.out
          go_wp2_with fail
          go_loopw [12, 47] (fun _ i wr => ∃ k : Nat, ∃ u, k ≤ edges.length ∧ i = .int .i64 k ∧ SnIn w1.heap.size w1 wr (.slice vo lives.length vc) u (aliveL t lives) (arcsL t lives (edges.take k))) (fun _ i _ => edges.length - (intOf i).toNat)
          case atStart => exact ⟨0, _, Nat.zero_le _, rfl, HS.out⟩
          case round =>
            clear HS p1 p2 hsb hsz HVV
            obtain ⟨k, u, hk, rfl, hS⟩ := hrel
            have HS := hideg hS
            have hbw := hS.bel
            have hsz := hbw.size
            have hsb := heap_lt hS.box
            have s0 : wr.cell? ⟨w1.heap.size, 0, none⟩ = some (.slice vo lives.length vc) := by rw [Lib.cell_of_heap hS.box]; rfl
            have s1 : wr.cell? ⟨w1.heap.size, 1, none⟩ = some u := by rw [Lib.cell_of_heap hS.box]; rfl
            clear hS
            by_cases hlt : k < edges.length
            · rcases HG1.out.ed with h0 | ⟨b, off, rfl, hbr, hc⟩
              · simp only at h0; subst h0; simp at hlt
              obtain ⟨c0', c1', lo, lcap, c2', hL, hnl, hml⟩ := hc k hlt
              have c0 := (hbw.cell (p := ⟨b, off + k * 3, none⟩) hbr).trans c0'
              have c1 := (hbw.cell (p := ⟨b, off + k * 3 + 1, none⟩) hbr).trans c1'
              have c2 := (hbw.cell (p := ⟨b, off + k * 3 + 2, none⟩) hbr).trans c2'
              have hbr2 : b < wr.heap.size := by omega
              have HN := HR.out.ends edges[k] (List.getElem_mem hlt)
              have HT := hideg (arcs_take t lives edges k hlt)
              have hLw := hL.below hbw
              have hln := arcs_len t lives (edges.take k)
              have hln2 : (arcsL t lives (edges.take k)).length ≤ 30 := by rw [List.length_take] at hln; omega
              clear c0' c1' c2' hc hL hln
              generalize edges[k] = ed at *
              obtain ⟨A, B, legs⟩ := ed
              simp only at HN c0 c1 c2 hLw hnl
              obtain ⟨⟨hA0, hA1⟩, ⟨hB0, hB1⟩, hl6⟩ := HN
              obtain ⟨na, rfl⟩ : ∃ na : Nat, A = na := ⟨A.toNat, by omega⟩
              obtain ⟨nb, rfl⟩ : ∃ nb : Nat, B = nb := ⟨B.toNat, by omega⟩
              have hA1' : na < lives.length := by omega
              have hB1' : nb < lives.length := by omega
              have hleg := fun o => legAt_any na nb lo lcap legs t (wr.alloc o) (hLw.below (gal wr o)) (by omega)
              have HCells : Hid (∃ vb, vo = some ⟨vb, 0, none⟩ ∧ w1.heap.size ≤ vb ∧ vb < wr.heap.size ∧ wr.cell? ⟨vb, na, none⟩ = some (.bool (aliveB t lives na)) ∧ wr.cell? ⟨vb, nb, none⟩ = some (.bool (aliveB t lives nb))) := by
                have ho := HS.out.own
                rw [aliveL_length] at ho
                rcases ho.2 with ⟨_, h9⟩ | ⟨gb, c9, cur, e9, _⟩
                · omega
                · simp only [Value.slice.injEq, true_and] at e9
                  obtain ⟨rfl, rfl⟩ := e9
                  have hl := ho.lt gb rfl
                  refine ⟨gb, rfl, hl.1, hl.2, ?_, ?_⟩
                  · rw [ho.cellAt na (by omega), List.getElem?_map, aliveB, List.getD_eq_getElem?_getD, Int.toNat_natCast, List.getElem?_eq_getElem (by rw [aliveL_length]; omega)]; rfl
                  · rw [ho.cellAt nb (by omega), List.getElem?_map, aliveB, List.getD_eq_getElem?_getD, Int.toNat_natCast, List.getElem?_eq_getElem (by rw [aliveL_length]; omega)]; rfl
              obtain ⟨vb, rfl, hv1, hv2, va, vb'⟩ := HCells.out
              have HAft : Hid (∀ o w2, Below (wr.alloc o).heap.size (wr.alloc o) w2 → Below wr.heap.size wr w2) := fun o w2 h => ptg (gal wr o) h
              clear HCells hLw
              have iA : (na : Int) < (lives.length : Int) := by omega
              have iB : (nb : Int) < (lives.length : Int) := by omega
              have iA0 : (0 : Int) ≤ (na : Int) := by omega
              have iB0 : (0 : Int) ≤ (nb : Int) := by omega
              have HD0 := hideg (fun h => arcOf_none (t := t) (lives := lives) (e := ((na : Int), (nb : Int), legs)) h)
              have HD1 := hideg (fun h => arcOf_dead (t := t) (lives := lives) (e := ((na : Int), (nb : Int), legs)) h)
              have HD2 := hideg (fun l h h' => arcOf_some (t := t) (lives := lives) (e := ((na : Int), (nb : Int), legs)) (l := l) h h')
              simp only at HD0 HD1 HD2
              go_wp2_with fail
              refine (hleg _).mono ?_
              rintro e w2 ⟨rfl, hb2⟩
              have hb2' := HAft.out _ _ hb2
              have hs2 := hb2.size
              simp only [World.size_alloc] at hs2
              have e0 : w2.cell? ⟨wr.heap.size, 0, none⟩ = some (.int .i64 na) := by rw [hb2.cell (p := ⟨wr.heap.size, 0, none⟩) (by simp)]; simp
              have e1 : w2.cell? ⟨wr.heap.size, 1, none⟩ = some (.int .i64 nb) := by rw [hb2.cell (p := ⟨wr.heap.size, 1, none⟩) (by simp)]; simp
              have t0 := (hb2'.cell (p := ⟨w1.heap.size, 0, none⟩) hsb).trans s0
              have t1 := (hb2'.cell (p := ⟨w1.heap.size, 1, none⟩) hsb).trans s1
              have xa := (hb2'.cell (p := ⟨vb, na, none⟩) hv2).trans va
              have xb := (hb2'.cell (p := ⟨vb, nb, none⟩) hv2).trans vb'
              have y1 : wr.heap.size < w2.heap.size := by omega
              have y2 : w1.heap.size < w2.heap.size := by omega
              have y3 : vb < w2.heap.size := by omega
              have HB2 := hideg hb2'
              clear hb2 hb2' hleg c0 c1 c2 va vb' HAft
              have HSk : Hid (∀ o, arcOf t lives ((na : Int), (nb : Int), legs) = [] → SnIn w1.heap.size w1 (w2.alloc o) (.slice (some ⟨vb, 0, none⟩) lives.length vc) u (aliveL t lives) (arcsL t lives (edges.take (k + 1)))) := by
                intro o h
                have hb := ptg HB2.out (gal w2 o)
                rw [HT.out, h, List.append_nil]
                exact ⟨ownsRow_below HS.out.own hb, ownsRow_below HS.out.own2 hb, by rw [hb.block _ hsb]; exact HS.out.box, hbw.trans (hb.mono hsz)⟩
              cases hf : lgFind t legs with
              | none =>
                have HSk2 := hideg (fun o => HSk.out o (HD0.out hf))
                simp only [legV, Option.getD_none, Option.isSome_none]
                clear hf HSk HD0 HD1 HD2 xa xb e0 e1 t0 t1
                go_wp2
                go_roundw
                case rel => exact ⟨k + 1, _, by omega, by go_num, HSk2.out _⟩
                case measure => simp [intOf]; omega
              | some l =>
                simp only [legV, Option.getD_some, Option.isSome_some]
                cases ea' : aliveB t lives na with
                | false =>
                  have HSk2 := hideg (fun o => HSk.out o (HD1.out (by simp [ea'])))
                  rw [ea'] at xa
                  clear hf HSk HD0 HD1 HD2 ea'
                  go_wp2
                  go_roundw
                  case rel => exact ⟨k + 1, _, by omega, by go_num, HSk2.out _⟩
                  case measure => simp [intOf]; omega
                | true =>
                  cases eb' : aliveB t lives nb with
                  | false =>
                    have HSk2 := hideg (fun o => HSk.out o (HD1.out (by simp [eb'])))
                    rw [ea'] at xa
                    rw [eb'] at xb
                    clear hf HSk HD0 HD1 HD2 ea' eb'
                    go_wp2
                    go_roundw
                    case rel => exact ⟨k + 1, _, by omega, by go_num, HSk2.out _⟩
                    case measure => simp [intOf]; omega
                  | true =>
                    have HA := hideg (HD2.out l hf (by simp [ea', eb']))
                    rw [ea'] at xa
                    rw [eb'] at xb
                    clear hf HSk HD0 HD1 HD2 ea' eb'
                    have hu := ownsRow_below HS.out.own2 HB2.out
                    go_wp2_with (at_builtin; refine wpList_append_lies _ rfl _ _ 32 rfl w1.heap.size 42 ia (.agg #[.int .i64 0, .int .i64 0, .int .i64 0]) 3 24 Tryd.underlying32 hia ha0 ha1 ha2 rfl (by decide) _ _ _ rfl (World.ownsRow.alloc (World.ownsRow.alloc (w := w2) hu _) _) ⟨w2.heap.size + 1, 0, none⟩ 1 1 [.int .i64 na, .int .i64 nb, .int .i64 l.2.2.2] rfl rfl ?c1 ?c2 (by decide) ?c3 ?c4 ?c5 (w2.heap.size + 1 + 1) ?c6 ?_)
                    case c1 => exact cells_three_new _ _ _ _ _ _ (by simp)
                    case c2 => intro u hu; simp at hu; rcases hu with rfl | rfl | rfl <;> rfl
                    case c3 => unfold maxLen; omega
                    case c4 => omega
                    case c5 => simp; omega
                    case c6 => simp
                    intro gg cap1 w3 hown3 hgrow hat hltg
                    have hne := own_ne HS.out.own2 HS.out.box (by decide)
                    have hbox3 : w3.heap[w1.heap.size]? = some (.cells #[.slice (some ⟨vb, 0, none⟩) lives.length vc, u] 34 (0, 0)) := by
                      rw [hgrow.block _ (by simp; omega) (Ne.symm hne), (gal _ _).block _ (by simp; omega), (gal _ _).block _ y2, HB2.out.block _ hsb]; exact HS.out.box
                    have z0 : w3.cell? ⟨w1.heap.size, 0, none⟩ = some (.slice (some ⟨vb, 0, none⟩) lives.length vc) := by rw [Lib.cell_of_heap hbox3]; rfl
                    have z1 : w3.cell? ⟨w1.heap.size, 1, none⟩ = some u := by rw [Lib.cell_of_heap hbox3]; rfl
                    have fz := frozen_at hbox3 1
                    have HBg := hideg ((((hbw.trans (HB2.out.mono hsz)).alloc (by omega) (.cells #[.int .i64 l.1, .int .i64 l.2.1, .int .i64 l.2.2.1, .int .i64 l.2.2.2] 54)).alloc (by simp; omega) (.cells #[.int .i64 na, .int .i64 nb, .int .i64 l.2.2.2] 42)).grown hgrow (by simp; omega) (fun j hj => (HS.out.own2.lt j hj).1))
                    have HS3 : Hid (SnIn w1.heap.size w1 (w3.setCell ⟨w1.heap.size, 1, none⟩ (.slice (some ⟨gg, 0, none⟩) ((arcsL t lives (edges.take k)).length + 1) cap1)) (.slice (some ⟨vb, 0, none⟩) lives.length vc) (.slice (some ⟨gg, 0, none⟩) ((arcsL t lives (edges.take k)).length + 1) cap1) (aliveL t lives) (arcsL t lives (edges.take (k + 1)))) := by
                      have hr : w3.ownsRow w1.heap.size 42 3 (.slice (some ⟨gg, 0, none⟩) ((arcsL t lives (edges.take k)).length + 1) cap1) (arcsL t lives (edges.take (k + 1))).length (enc3 (arcsL t lives (edges.take (k + 1)))) := by
                        rw [HT.out, HA.out, enc3_append, List.length_append]; exact hown3
                      have ha : w3.ownsRow w1.heap.size 4 1 (.slice (some ⟨vb, 0, none⟩) lives.length vc) (aliveL t lives).length ((aliveL t lives).map Value.bool) := by
                        have h1 := World.ownsRow.alloc (World.ownsRow.alloc (ownsRow_below HS.out.own HB2.out) (.cells #[.int .i64 l.1, .int .i64 l.2.1, .int .i64 l.2.2.1, .int .i64 l.2.2.2] 54)) (.cells #[.int .i64 na, .int .i64 nb, .int .i64 l.2.2.2] 42)
                        exact ownsRow_grown h1 (World.ownsRow.alloc (World.ownsRow.alloc hu _) _) hgrow (by decide)
                      refine ⟨ownsRow_setBox ha (own_ne ha hbox3 (by decide)), ownsRow_setBox hr (own_ne hr hbox3 (by decide)), ?_, HBg.out.setCell (p := ⟨w1.heap.size, 1, none⟩) (Nat.le_refl _) _⟩
                      simp [World.setCell, Array.getElem?_modify, hbox3]
                    clear HBg hgrow hown3 hbox3 hat hltg xa xb e0 e1 t0 t1 hu
                    go_wp2
                    go_roundw
                    case rel => exact ⟨k + 1, _, by omega, by go_num, HS3.out⟩
                    case measure => simp [intOf]; omega
            · have hke : k = edges.length := by omega
              subst hke
              rw [List.take_length] at HS
              obtain ⟨r0', r1', f0'⟩ := HRes.out
              have r0 := (hbw.cell (p := ⟨w.heap.size + 1, 0, none⟩) (by simp only; omega)).trans r0'
              have r1 := (hbw.cell (p := ⟨w.heap.size + 1, 1, none⟩) (by simp only; omega)).trans r1'
              have f0 : ∀ j, wr.frozen? ⟨w.heap.size + 1, j, none⟩ = false := fun j => (hbw.frozen (p := ⟨w.heap.size + 1, j, none⟩) (by simp only; omega)).trans (f0' j)
              obtain ⟨uo, uc, hue, _⟩ := pcAt_of_owns HS.out.own2
              subst hue
              have HF : Hid (∀ a b, BsAt ((wr.setCell ⟨w.heap.size + 1, 0, none⟩ a).setCell ⟨w.heap.size + 1, 1, none⟩ b) vo (aliveL t lives) ∧ PcAt ((wr.setCell ⟨w.heap.size + 1, 0, none⟩ a).setCell ⟨w.heap.size + 1, 1, none⟩ b) uo (arcsL t lives edges)) := by
                intro a b
                have n1 : (Value.slice vo lives.length vc).ownBlock ≠ some (w.heap.size + 1) := fun h => by have := (HS.out.own.lt _ h).1; omega
                have n2 : (Value.slice uo (arcsL t lives edges).length uc).ownBlock ≠ some (w.heap.size + 1) := fun h => by have := (HS.out.own2.lt _ h).1; omega
                obtain ⟨o1, x1, h1, h2⟩ := bsAt_of_owns (ownsRow_setBox (j := 1) (u := b) (ownsRow_setBox (j := 0) (u := a) HS.out.own n1) n1)
                obtain ⟨o2, x2, h3, h4⟩ := pcAt_of_owns (ownsRow_setBox (j := 1) (u := b) (ownsRow_setBox (j := 0) (u := a) HS.out.own2 n2) n2)
                simp only [Value.slice.injEq] at h1 h3
                rw [h1.1, h3.1]
                exact ⟨h2, h4⟩
              have HBF := hideg (ptg HB1.out hbw)
              clear r0' r1' f0'
              go_wp2
              refine bodyPost_ret (v := .tuple #[.agg #[.slice vo lives.length vc, .slice uo (arcsL t lives edges).length uc], .int .i64 0]) (by simp [results, Tryd.results8, go_sem, r0, r1]) rfl ⟨vo, vc, uo, uc, by rw [aliveL_length], (HF.out _ _).1, (HF.out _ _).2, ?_⟩
              exact (HBF.out.setCell (p := ⟨w.heap.size + 1, 0, none⟩) (by simp) _).setCell (p := ⟨w.heap.size + 1, 1, none⟩) (by simp) _
  · have he : atErr g t = gChk g := by unfold atErr; rw [if_neg h0]
    rw [he, if_neg h0, if_neg h0]
    have hne : (gChk g != 0) = true := by simpa using h0
    generalize gChk g = ev at *
    clear hG he
    go_enter Tryd.func8, Tryd.ntmps8
    go_wp2_with fail
    refine (hC _ _).mono ?_
    rintro e w1 ⟨rfl, hb1⟩
    have HB1 := hideg (ptg (HB.out _ _) hb1)
    have r0 : w1.cell? ⟨w.heap.size + 1, 0, none⟩ = some (.slice none 0 0) := by rw [hb1.cell (p := ⟨w.heap.size + 1, 0, none⟩) (by simp)]; simp
    have r1 : w1.cell? ⟨w.heap.size + 1, 1, none⟩ = some (.slice none 0 0) := by rw [hb1.cell (p := ⟨w.heap.size + 1, 1, none⟩) (by simp)]; simp
    have f0 : ∀ j, w1.frozen? ⟨w.heap.size + 1, j, none⟩ = false := fun j => by rw [hb1.frozen (p := ⟨w.heap.size + 1, j, none⟩) (by simp)]; simp
    clear hC hb1
    go_wp2
    refine bodyPost_ret (v := .tuple #[.agg #[.slice none 0 0, .slice none 0 0], .int .i64 ev]) (by simp [results, Tryd.results8, go_sem, r0, r1]) rfl ⟨none, 0, none, 0, rfl, .inl rfl, .inl rfl, ?_⟩
    exact (HB1.out.setCell (p := ⟨w.heap.size + 1, 0, none⟩) (by simp) _).setCell (p := ⟨w.heap.size + 1, 1, none⟩) (by simp) _

end Go.Proofs.YthgelfnflafoiaaDoor
