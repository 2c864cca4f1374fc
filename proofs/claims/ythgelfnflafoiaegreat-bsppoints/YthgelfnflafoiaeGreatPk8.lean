/-
  Several texts in one.
-/
import Derived.Shelf.Abstract
import Derived.Laws.AppendOwnNone
import Derived.Maps.AppendAt
import Derived.OwnWalk
import Derived.Shelf.Strconv.Itoa0
import Derived.Shelf.Sort.Plain
import Derived.Ground.Names2Prog
import Derived.Shelf.Slices.CompactI
import Derived.Shelf.Slices.In.SortNone
import Derived.Ground.NamesProg
import Derived.Sort.OwnSortedInts
import Derived.Lib.SlicesCompact
import Derived.Test.YthgelfnflafoiaeGreatPk7
namespace Go.Proofs.YthgelfnflafoiaeGreat.Q
open Sim (Seq.prog)
open Go.RowKit
def SnapOut (w w' : World) (e : Ending) (n : Int) (al : List Bool) (ar : List (Int × Int × Int)) : Prop :=
 ∃ ao ca bo cb, e = .returned (.tuple #[.agg #[.slice ao al.length ca, .slice bo ar.length cb], .int .i64 n]) /\ BsAt w' ao al /\ PcAt w' bo ar /\ Below w.heap.size w w'
theorem own_ne {w : World} {base e size : Nat} {v : Value} {n : Nat} {xs : List Value} {b : Nat} {cs : Array Value} {T : TypeId} {fr : Nat × Nat} (h : w.ownsRow base e size v n xs) (hb : w.heap[b]? = some (.cells cs T fr)) (hT : T ≠ e) : v.ownBlock ≠ some b := by
 rcases h.2 with ⟨rfl, _⟩ | ⟨g, cap, cur, rfl, _, hg, _⟩
 · simp [Value.ownBlock]
 · intro h
   simp only [Value.ownBlock, Option.some.injEq] at h
   subst h
   rw [hg] at hb
   simp only [Option.some.injEq, Obj.cells.injEq] at hb
   exact hT hb.2.1.symm
theorem heap_lt {w : World} {b : Nat} {o : Obj} (h : w.heap[b]? = some o) : b < w.heap.size := by
 rcases Nat.lt_or_ge b w.heap.size with k | k
 · exact k
 · rw [Array.getElem?_eq_none k] at h; simp at h
theorem has_one (p : Int × Int) (t : Int) : has [p] t = hasB p.1 p.2 t := by
 rw [has_cons, has_nil, Bool.or_false]; rfl
theorem frozen_at {w : World} {b : Nat} {cs : Array Value} {T : TypeId} (h : w.heap[b]? = some (.cells cs T (0, 0))) (j : Nat) : w.frozen? ⟨b, j, none⟩ = false := Lib.frozen_of_heap h j
theorem ownsRow_setBox {w : World} {base e size : Nat} {v : Value} {n : Nat} {xs : List Value} {b j : Nat} {u : Value} (h : w.ownsRow base e size v n xs) (hne : v.ownBlock ≠ some b) : (w.setCell ⟨b, j, none⟩ u).ownsRow base e size v n xs :=
 h.kept (row := some b) ⟨rfl, rfl, rfl, by simp [World.setCell], fun k _ hk => Below.heap_setCell _ _ _ _ (fun e => hk (by simp [e]))⟩ (Or.inr hne)
theorem ownsRow_grown {w w' : World} {base e e' size size' : Nat} {v v' : Value} {n n' : Nat} {xs xs' : List Value} (h : w.ownsRow base e size v n xs) (h' : w.ownsRow base e' size' v' n' xs') (hg : w.grownBy w' v'.ownBlock) (hne : e ≠ e') : w'.ownsRow base e size v n xs := by
 refine h.kept hg ?_
 cases hv : v.ownBlock with
 | none => simp
 | some b =>
   rcases h.2 with ⟨rfl, _⟩ | ⟨g, cap, cur, rfl, _, hb, _⟩
   · simp [Value.ownBlock] at hv
   · simp only [Value.ownBlock, Option.some.injEq] at hv
     subst hv
     refine .inr fun k => ?_
     exact own_ne h' hb hne k.symm
structure SnIn (sb : Nat) (w1 wr : World) (v u : Value) (al : List Bool) (ar : List (Int × Int × Int)) : Prop where
 own : wr.ownsRow w1.heap.size 4 1 v al.length (al.map Value.bool)
 own2 : wr.ownsRow w1.heap.size 65 3 u ar.length (enc3 ar)
 box : wr.heap[sb]? = some (.cells #[v, u] 34 (0, 0))
 bel : Below w1.heap.size w1 wr
set_option linter.unusedSimpArgs false in
set_option maxRecDepth 100000 in
set_option maxHeartbeats 8000000 in
theorem At_any (g : Gr) (la ea : Option Addr) (lc ec : Nat) (t : Int) (w : World) (hG : GAt w la ea g) (hlc : g.lives.length <= lc) (hlm : lc <= 9223372036854775807) :
   Calls Seq.prog 7 #[.agg #[.int .i64 g.hor, .slice la g.lives.length lc, .slice ea g.edges.length ec], .int .i64 t] w fun r w' => SnapOut w w' r (atErr g t) (if atErr g t = 0 then aliveL t g.lives else []) (if atErr g t = 0 then arcsL t g.lives g.edges else []) := by
 have HB : Hid (∀ o o', Below w.heap.size w ((w.alloc o).alloc o')) := fun o o' => ptg (gal w o) (gal _ o')
 obtain ⟨i0, hi, hb0, hb1', hb2'⟩ := info_parts Tryz.infoBool
 obtain ⟨ia, hia, ha0, ha1, ha2⟩ := info_parts Tryz.infoArc
 have hC := fun o o' => gCheck_any g la ea lc ec ((w.alloc o).alloc o') (hG.below (ptg (gal w o) (gal _ o')))
 by_cases h0 : gChk g = 0
 · cases h1 : inR t 0 (g.hor - 1)
   · have he : atErr g t = 1 := by unfold atErr; rw [if_pos h0, h1]; rfl
     have R := (gChk_right h0).hor
     rw [he, if_neg (by decide), if_neg (by decide)]
     rw [h0] at hC
     clear h0 hG he
     obtain ⟨h, lives, edges⟩ := g
     simp only at hC h1 R ⊢
     have HHOR := hideg R
     go_enter Seq.func7, Tryz.ntmps7
     go_wp2_with fail
     refine (hC _ _).mono ?_
     rintro e w0 ⟨rfl, hb0⟩
     have p0 : w0.cell? ⟨w.heap.size, 0, none⟩ = some (.int .i64 h) := by rw [hb0.cell (p := ⟨w.heap.size, 0, none⟩) (by simp; omega)]; simp
     have p1 : w0.cell? ⟨w.heap.size, 1, none⟩ = some (.slice la lives.length lc) := by rw [hb0.cell (p := ⟨w.heap.size, 1, none⟩) (by simp; omega)]; simp
     have p2 : w0.cell? ⟨w.heap.size, 2, none⟩ = some (.slice ea edges.length ec) := by rw [hb0.cell (p := ⟨w.heap.size, 2, none⟩) (by simp; omega)]; simp
     have hHT := fun W => gHasT_any h la ea lives.length lc edges.length ec t W HHOR.out.1 HHOR.out.2
     rw [h1] at hHT
     have HB0 := hideg hb0
     clear hC hb0
     go_wp2_with fail
     refine (hHT _).mono ?_
     rintro e w1 ⟨rfl, hbT⟩
     have hb1 := HB0.out.trans (hbT.mono HB0.out.size)
     clear hHT hbT p0 p1 p2 HB0
     have HB1 := hideg (ptg (HB.out _ _) hb1)
     have hz := hb1.size
     simp only [World.size_alloc] at hz
     have q0 : w1.cell? ⟨w.heap.size, 0, none⟩ = some (.int .i64 h) := by rw [hb1.cell (p := ⟨w.heap.size, 0, none⟩) (by simp; omega)]; simp
     have r0 : w1.cell? ⟨w.heap.size + 1, 0, none⟩ = some (.slice none 0 0) := by rw [hb1.cell (p := ⟨w.heap.size + 1, 0, none⟩) (by simp)]; simp
     have r1 : w1.cell? ⟨w.heap.size + 1, 1, none⟩ = some (.slice none 0 0) := by rw [hb1.cell (p := ⟨w.heap.size + 1, 1, none⟩) (by simp)]; simp
     have f0 : ∀ j, w1.frozen? ⟨w.heap.size + 1, j, none⟩ = false := fun j => by rw [hb1.frozen (p := ⟨w.heap.size + 1, j, none⟩) (by simp)]; simp
     clear hb1
     go_wp2
     refine bodyPost_ret (v := .tuple #[.agg #[.slice none 0 0, .slice none 0 0], .int .i64 1]) (by simp [results, Tryz.results7, go_sem, r0, r1]) rfl ⟨none, 0, none, 0, rfl, .inl rfl, .inl rfl, ?_⟩
     exact (HB1.out.setCell (p := ⟨w.heap.size + 1, 0, none⟩) (by simp) _).setCell (p := ⟨w.heap.size + 1, 1, none⟩) (by simp) _
   · have he : atErr g t = 0 := by unfold atErr; rw [if_pos h0, h1]; rfl
     have R := (gChk_right h0)
     rw [he, if_pos rfl, if_pos rfl]
     rw [h0] at hC
     have HG := hideg hG
     have HR := hideg R
     clear h0 hG he
     obtain ⟨h, lives, edges⟩ := g
     have hh := R.hor
     have hl12 : lives.length <= 12 := R.lvs
     have he30 : edges.length <= 30 := R.eds
     simp only at hC h1 hh hlc ⊢
     have HHOR := hideg hh
     clear R
     go_enter Seq.func7, Tryz.ntmps7
     go_wp2_with fail
     refine (hC _ _).mono ?_
     rintro e w0 ⟨rfl, hb0⟩
     have p0 : w0.cell? ⟨w.heap.size, 0, none⟩ = some (.int .i64 h) := by rw [hb0.cell (p := ⟨w.heap.size, 0, none⟩) (by simp; omega)]; simp
     have p1 : w0.cell? ⟨w.heap.size, 1, none⟩ = some (.slice la lives.length lc) := by rw [hb0.cell (p := ⟨w.heap.size, 1, none⟩) (by simp; omega)]; simp
     have p2 : w0.cell? ⟨w.heap.size, 2, none⟩ = some (.slice ea edges.length ec) := by rw [hb0.cell (p := ⟨w.heap.size, 2, none⟩) (by simp; omega)]; simp
     have hHT := fun W => gHasT_any h la ea lives.length lc edges.length ec t W HHOR.out.1 HHOR.out.2
     rw [h1] at hHT
     have HB0 := hideg hb0
     clear hC hb0
     go_wp2_with fail
     refine (hHT _).mono ?_
     rintro e w1 ⟨rfl, hbT⟩
     have hb1 := HB0.out.trans (hbT.mono HB0.out.size)
     clear hHT hbT p0 p1 p2 HB0
     have HB1 := hideg (ptg (HB.out _ _) hb1)
     have hz := hb1.size
     simp only [World.size_alloc] at hz
     have q0 : w1.cell? ⟨w.heap.size, 0, none⟩ = some (.int .i64 h) := by rw [hb1.cell (p := ⟨w.heap.size, 0, none⟩) (by simp; omega)]; simp
     have q1 : w1.cell? ⟨w.heap.size, 1, none⟩ = some (.slice la lives.length lc) := by rw [hb1.cell (p := ⟨w.heap.size, 1, none⟩) (by simp; omega)]; simp
     have q2 : w1.cell? ⟨w.heap.size, 2, none⟩ = some (.slice ea edges.length ec) := by rw [hb1.cell (p := ⟨w.heap.size, 2, none⟩) (by simp; omega)]; simp
     have r0 : w1.cell? ⟨w.heap.size + 1, 0, none⟩ = some (.slice none 0 0) := by rw [hb1.cell (p := ⟨w.heap.size + 1, 0, none⟩) (by simp)]; simp
     have r1 : w1.cell? ⟨w.heap.size + 1, 1, none⟩ = some (.slice none 0 0) := by rw [hb1.cell (p := ⟨w.heap.size + 1, 1, none⟩) (by simp)]; simp
     have f0 : ∀ j, w1.frozen? ⟨w.heap.size + 1, j, none⟩ = false := fun j => by rw [hb1.frozen (p := ⟨w.heap.size + 1, j, none⟩) (by simp)]; simp
     have HG1 := hideg (HG.out.below HB1.out)
     have HRes := hideg (⟨r0, r1, f0⟩ : _ /\ _ /\ _)
     have hz0 : w.heap.size < w1.heap.size := by omega
     clear hb1 HG r0 r1 f0
     go_wp2_with fail
     go_loopw [8, 27] (fun _ i wr => ∃ k : Nat, ∃ v, k <= lives.length /\ i = .int .i64 k /\ SnIn w1.heap.size w1 wr v (.slice none 0 0) (aliveL t (lives.take k)) []) (fun _ i _ => lives.length - (intOf i).toNat)
     case atStart => exact ⟨0, _, Nat.zero_le _, rfl, World.ownsRow_nil _ _ _ _, World.ownsRow_nil _ _ _ _, heap_alloc_new _ _, gal _ _⟩
     case round =>
       obtain ⟨k, v, hk, rfl, hS⟩ := hrel
       have HS := hideg hS
       have hbw := hS.bel
       have hsz := hbw.size
       have hsb := heap_lt hS.box
       have p1 : wr.cell? ⟨w.heap.size, 1, none⟩ = some (.slice la lives.length lc) := (hbw.cell (p := ⟨w.heap.size, 1, none⟩) hz0).trans q1
       have s0 : wr.cell? ⟨w1.heap.size, 0, none⟩ = some v := by rw [Lib.cell_of_heap hS.box]; rfl
       clear hS
       by_cases hlt : k < lives.length
       · rcases HG1.out.lv.below hbw with h0 | ⟨b, off, rfl, hbr, hc⟩
         · simp only at h0; subst h0; simp at hlt
         simp only at hc
         obtain ⟨c0, c1⟩ := IvAt.get hlt hc
         have hHas : Hid (∀ cap, Calls Seq.prog 21 #[.slice (some ⟨b, off + k * 2, none⟩) 1 cap, .int .i64 t] wr.drew fun e w' => e = .returned (.bool (hasB lives[k].1 lives[k].2 t)) /\ Below wr.heap.size wr w') := by
           intro cap
           have := Has_any (some ⟨b, off + k * 2, none⟩) cap [lives[k]] t wr.drew (.inr ⟨b, off + k * 2, rfl, hbr, fun j hj => by
             match j, hj with
             | 0, _ => exact ⟨c0, c1⟩⟩) (by simp)
           rw [has_one] at this
           exact this.mono fun _ _ ⟨a, b⟩ => ⟨a, ptg (Below.refl _ _).drew b⟩
         have HT := hideg (aliveL_take t lives k hlt)
         obtain ⟨vo, vc, hve, _⟩ := bsAt_of_owns HS.out.own
         have hal : (aliveL t (lives.take k)).length = k := by rw [aliveL_length, List.length_take]; omega
         have hown : wr.ownsRow w1.heap.size 4 1 v k ((aliveL t (lives.take k)).map Value.bool) := by have := HS.out.own; rwa [hal] at this
         have HO := hideg hown
         rw [hal] at hve
         subst hve
         have HNE := hideg (own_ne hown HS.out.box (by decide))
         have HAfter : Hid (∀ w3, Below wr.heap.size wr w3 -> w3.cell? ⟨w.heap.size, 1, none⟩ = some (.slice (some ⟨b, off, none⟩) lives.length lc) /\ w3.cell? ⟨w1.heap.size, 0, none⟩ = some (.slice vo k vc)) := fun w3 h3 =>
           ⟨(h3.cell (p := ⟨w.heap.size, 1, none⟩) (by simp only; omega)).trans p1, (h3.cell (p := ⟨w1.heap.size, 0, none⟩) hsb).trans s0⟩
         clear hc hown hal c0 c1
         generalize hasB lives[k].1 lives[k].2 t = bb at *
         have i1 : (k : Int) + 1 <= (lc : Int) := by omega
         have i2 : (0 : Int) <= (k : Int) := by omega
         have i3 : (0 : Int) <= (k : Int) + 1 := by omega
         have i4 : IntKind.i64.wrap ((k : Int) + 1) = (k : Int) + 1 := wrap_small _ (by omega) (by omega)
         have i5 : ((k : Int) + 1).toNat = k + 1 := by omega
         have i6 : ¬ lc = k := by omega
         go_wp2_with fail
         refine wp_region_noPanic ?_
         refine wp_region_back (S := fun w' => w'.cell? ⟨w.heap.size, 1, none⟩ = some (.slice (some ⟨b, off, none⟩) lives.length lc) /\ w'.cell? ⟨w1.heap.size, 0, none⟩ = some (.slice vo k vc)) (by kernel_rfl) (by simp) (by kernel_rfl) (by kernel_rfl) ⟨p1, s0⟩ (fun hHeld => ?_)
         simp only [List.pop_toArray, List.dropLast, List.back!_toArray, List.getLast!]
         refine take_lit (i := 0) (v := ?_) rfl (by kernel_rfl) (by kernel_rfl) (by kernel_rfl) (fun _ _ _ h => h) (Or.inl ⟨by rfl, ?hy0⟩) (by assumption) ?_
         case hy0 => (intro w hSw; (try dsimp only at hSw); go_simp; try with_reducible rfl)
         try simp only [Act.put, List.setIfInBounds_toArray, List.set_cons_zero, List.set_cons_succ]
         refine take_lit (i := 1) (v := ?_) rfl (by kernel_rfl) (by kernel_rfl) (by kernel_rfl) (fun _ _ _ h => h) (Or.inl ⟨by rfl, ?hy1⟩) (by assumption) ?_
         case hy1 => (intro w hSw; (try dsimp only at hSw); go_simp; try with_reducible rfl)
         try simp only [Act.put, List.setIfInBounds_toArray, List.set_cons_zero, List.set_cons_succ]
         refine take_lit (i := 2) (v := ?_) rfl (by kernel_rfl) (by kernel_rfl) (by kernel_rfl) (fun _ _ _ h => h) (Or.inl ⟨by rfl, ?hy2⟩) (by assumption) ?_
         case hy2 => (intro w hSw; (try dsimp only at hSw); go_simp; try with_reducible rfl)
         try simp only [Act.put, List.setIfInBounds_toArray, List.set_cons_zero, List.set_cons_succ]
         refine take_lit (i := 3) (v := ?_) rfl (by kernel_rfl) (by kernel_rfl) (by kernel_rfl) (fun _ _ _ h => h) (Or.inl ⟨by rfl, ?hy3⟩) (by assumption) ?_
         case hy3 => (intro w hSw; (try dsimp only at hSw); go_simp; try with_reducible rfl)
         try simp only [Act.put, List.setIfInBounds_toArray, List.set_cons_zero, List.set_cons_succ]
         refine take_lit (i := 4) (v := ?_) rfl (by kernel_rfl) (by kernel_rfl) (by kernel_rfl) (fun _ _ _ h => h) (Or.inl ⟨by rfl, ?hy4⟩) (by assumption) ?_
         case hy4 => (intro w hSw; (try dsimp only at hSw); go_simp; try with_reducible rfl)
         try simp only [Act.put, List.setIfInBounds_toArray, List.set_cons_zero, List.set_cons_succ]
         refine take_lit (i := 5) (v := ?_) rfl (by kernel_rfl) (by kernel_rfl) (by kernel_rfl) (fun _ _ _ h => h) (Or.inl ⟨by rfl, ?hy5⟩) (by assumption) ?_
         case hy5 => (intro w hSw; (try dsimp only at hSw); go_simp; try with_reducible rfl)
         try simp only [Act.put, List.setIfInBounds_toArray, List.set_cons_zero, List.set_cons_succ]
         refine take_lit (i := 6) (v := ?_) rfl (by kernel_rfl) (by kernel_rfl) (by kernel_rfl) (fun _ _ _ h => h) (Or.inl ⟨by rfl, ?hy6⟩) (by assumption) ?_
         case hy6 => (intro w hSw; (try dsimp only at hSw); go_simp; try with_reducible rfl)
         try simp only [Act.put, List.setIfInBounds_toArray, List.set_cons_zero, List.set_cons_succ]
         refine take_lit (i := 7) (v := ?_) rfl (by kernel_rfl) (by kernel_rfl) (by kernel_rfl) (fun _ _ _ h => h) (Or.inl ⟨by rfl, ?hy7⟩) (by assumption) ?_
         case hy7 => (intro w hSw; (try dsimp only at hSw); go_simp; try with_reducible rfl)
         try simp only [Act.put, List.setIfInBounds_toArray, List.set_cons_zero, List.set_cons_succ]
         refine take_lit (i := 8) (v := ?_) rfl (by kernel_rfl) (by kernel_rfl) (by kernel_rfl) (fun _ _ _ h => h) (Or.inl ⟨by rfl, ?hy8⟩) (by assumption) ?_
         case hy8 => (intro w hSw; (try dsimp only at hSw); go_simp; try with_reducible rfl)
         try simp only [Act.put, List.setIfInBounds_toArray, List.set_cons_zero, List.set_cons_succ]
         refine next_lit (i := 9) rfl (by kernel_rfl) (fun K hK => ?_)
         go_simp
         refine (hHas.out _).mono ?_
         rintro e w3 ⟨rfl, hb3⟩
         obtain ⟨k1, k2⟩ := HAfter.out w3 hb3
         refine hK.out _ _ ⟨k1, k2⟩ (fun hHeld => ?_)
         clear hK K hHeld
         try simp only [Act.put, List.setIfInBounds_toArray, List.set_cons_zero, List.set_cons_succ]
         refine next_lit (i := 10) rfl (by kernel_rfl) (fun K hK => ?_)
         go_simp
         have l1 := heap_lt (HS.out.box)
         have hs3 := hb3.size
         have m1 := ((gal w3 (.cells #[.bool bb] 4)).cell (p := ⟨w.heap.size, 1, none⟩) (by simp only; omega)).trans k1
         have m2 := ((gal w3 (.cells #[.bool bb] 4)).cell (p := ⟨w1.heap.size, 0, none⟩) (by simp only; omega)).trans k2
         refine hK.out _ _ ⟨m1, m2⟩ (fun hHeld => ?_)
         clear hK K hHeld
         try simp only [Act.put, List.setIfInBounds_toArray, List.set_cons_zero, List.set_cons_succ]
         refine next_lit (i := 11) rfl (by kernel_rfl) (fun K hK => ?_)
         refine step_append_lies _ (by rfl) _ _ _ (by rfl) w1.heap.size 4 i0 _ 1 1 ((Seq.pu 31).trans Tryz.underlying31) hi hb0 hb1' hb2' rfl (by omega) (.slice vo k vc) k ((aliveL t (lives.take k)).map Value.bool) (by rfl) ((ownsRow_below HO.out hb3).alloc _) ⟨w3.heap.size, 0, none⟩ 1 1 [.bool bb] (by rfl) (by rfl) (World.news_of_block (cs := #[.bool bb]) (t := 4) (fr := (0, 0)) (heap_alloc_new w3 _)) (by simp [Value.oneCell']) (by omega) (by unfold maxLen; omega) (by omega) (by simp; omega) (w3.heap.size + 1) (by simp) ?_
         intro gg cap1 w4 hown1 hgrow hat hltg
         have n1 : some w.heap.size ≠ (Value.slice vo k vc).ownBlock := fun h => by have := (HO.out.lt _ h.symm).1; omega
         have x1 : w4.cell? ⟨w.heap.size, 1, none⟩ = some (.slice (some ⟨b, off, none⟩) lives.length lc) := by rw [hgrow.cell_far _ (by simp; omega) n1]; exact m1
         have x2 : w4.cell? ⟨w1.heap.size, 0, none⟩ = some (.slice vo k vc) := by rw [hgrow.cell_far _ (by simp; omega) (Ne.symm HNE.out)]; exact m2
         have hbox4 : w4.heap[w1.heap.size]? = some (.cells #[.slice vo k vc, .slice none 0 0] 34 (0, 0)) := by
           rw [hgrow.block _ (by simp; omega) (Ne.symm HNE.out), (gal w3 _).block _ (by omega), hb3.block _ l1]; exact HS.out.box
         have fz4 := frozen_at hbox4 0
         have HB4 := hideg (((hbw.trans (hb3.mono hbw.size)).alloc (by omega) (.cells #[.bool bb] 4)).grown hgrow (by simp; omega) (fun j hj => (HO.out.lt j hj).1))
         refine hK.out _ _ ⟨x1, x2⟩ (fun hHeld => ?_)
         clear hK K
         try simp only [Act.put, List.setIfInBounds_toArray, List.set_cons_zero, List.set_cons_succ]
         refine take_lit (i := 12) (v := ?_) rfl (by kernel_rfl) (by kernel_rfl) (by kernel_rfl) (fun _ _ _ h => h) (Or.inl ⟨by rfl, ?hy12⟩) (by assumption) ?_
         case hy12 => (intro w hSw; (try dsimp only at hSw); go_simp; try with_reducible rfl)
         try simp only [Act.put, List.setIfInBounds_toArray, List.set_cons_zero, List.set_cons_succ]
         refine wpAnyH_done (by kernel_rfl) ?_ _
         refine back_last (fun K hK => ?_)
         clear hHeld
         go_simp
         refine hK.out _ _ (NoPanic.normal ?_)
         clear hK K
         have HS4 : Hid (SnIn w1.heap.size w1 (w4.setCell ⟨w1.heap.size, 0, none⟩ (.slice (some ⟨gg, 0, none⟩) (k + 1) cap1)) (.slice (some ⟨gg, 0, none⟩) (k + 1) cap1) (.slice none 0 0) (aliveL t (lives.take (k + 1))) []) := by
           have hr : w4.ownsRow w1.heap.size 4 1 (.slice (some ⟨gg, 0, none⟩) (k + 1) cap1) (aliveL t (lives.take (k + 1))).length ((aliveL t (lives.take (k + 1))).map Value.bool) := by
             rw [aliveL_length, List.length_take, Nat.min_eq_left (by omega), HT.out, List.map_append]; exact hown1
           have hne := own_ne hr hbox4 (by decide)
           refine ⟨ownsRow_setBox hr hne, World.ownsRow_nil _ _ _ _, ?_, HB4.out.setCell (p := ⟨w1.heap.size, 0, none⟩) (Nat.le_refl _) _⟩
           simp [World.setCell, Array.getElem?_modify, hbox4]
         clear HB4 hgrow hown1 x1 x2 m1 m2 k1 k2 hbox4 hat hltg
         go_wp2
         go_roundw
         case rel => exact ⟨k + 1, _, by omega, by go_num, HS4.out⟩
         case measure => simp [intOf]; omega
       · have hke : k = lives.length := by omega
         subst hke
         rw [List.take_length] at HS
         have p2 : wr.cell? ⟨w.heap.size, 2, none⟩ = some (.slice ea edges.length ec) := (hbw.cell (p := ⟨w.heap.size, 2, none⟩) hz0).trans q2
         have HV := hideg (bsAt_of_owns HS.out.own)
         have hal : (aliveL t lives).length = lives.length := aliveL_length t lives
         have HVV : Hid (∃ vo vc, v = .slice vo lives.length vc) := by
           obtain ⟨ao, ca, h, _⟩ := HV.out
           exact ⟨ao, ca, by rw [h, hal]⟩
         clear HV s0 hbw
         obtain ⟨vo, vc, rfl⟩ := HVV.out
         go_wp2_with fail
         go_loopw [12, 47] (fun _ i wr => ∃ k : Nat, ∃ u, k <= edges.length /\ i = .int .i64 k /\ SnIn w1.heap.size w1 wr (.slice vo lives.length vc) u (aliveL t lives) (arcsL t lives (edges.take k))) (fun _ i _ => edges.length - (intOf i).toNat)
         case atStart => exact ⟨0, _, Nat.zero_le _, rfl, HS.out⟩
         case round =>
           clear HS p1 p2 hsb hsz HVV
           obtain ⟨k, u, hk, rfl, hS⟩ := hrel
           have HS := hideg hS
           have hbw := hS.bel
           have hsz := hbw.size
           have hsb := heap_lt hS.box
           have s0 : wr.cell? ⟨w1.heap.size, 0, none⟩ = some (.slice vo lives.length vc) := by rw [Lib.cell_of_heap hS.box]; rfl
           have s1 : wr.cell? ⟨w1.heap.size, 1, none⟩ = some u := by rw [Lib.cell_of_heap hS.box]; rfl
           clear hS
           by_cases hlt : k < edges.length
           · rcases HG1.out.ed with h0 | ⟨b, off, rfl, hbr, hc⟩
             · simp only at h0; subst h0; simp at hlt
             obtain ⟨c0', c1', lo, lcap, c2', hL, hnl, hml⟩ := hc k hlt
             have c0 := (hbw.cell (p := ⟨b, off + k * 3, none⟩) hbr).trans c0'
             have c1 := (hbw.cell (p := ⟨b, off + k * 3 + 1, none⟩) hbr).trans c1'
             have c2 := (hbw.cell (p := ⟨b, off + k * 3 + 2, none⟩) hbr).trans c2'
             have hbr2 : b < wr.heap.size := by omega
             have HN := HR.out.ends edges[k] (List.getElem_mem hlt)
             have HT := hideg (arcs_take t lives edges k hlt)
             have hLw := hL.below hbw
             have hln := arcs_len t lives (edges.take k)
             have hln2 : (arcsL t lives (edges.take k)).length <= 30 := by rw [List.length_take] at hln; omega
             clear c0' c1' c2' hc hL hln
             generalize edges[k] = ed at *
             obtain ⟨A, B, legs⟩ := ed
             simp only at HN c0 c1 c2 hLw hnl
             obtain ⟨⟨hA0, hA1⟩, ⟨hB0, hB1⟩, hl6⟩ := HN
             obtain ⟨na, rfl⟩ : ∃ na : Nat, A = na := ⟨A.toNat, by omega⟩
             obtain ⟨nb, rfl⟩ : ∃ nb : Nat, B = nb := ⟨B.toNat, by omega⟩
             have hA1' : na < lives.length := by omega
             have hB1' : nb < lives.length := by omega
             have hleg := fun o => legAt_any na nb lo lcap legs t (wr.alloc o) (hLw.below (gal wr o)) (by omega)
             have HCells : Hid (∃ vb, vo = some ⟨vb, 0, none⟩ /\ w1.heap.size <= vb /\ vb < wr.heap.size /\ wr.cell? ⟨vb, na, none⟩ = some (.bool (aliveB t lives na)) /\ wr.cell? ⟨vb, nb, none⟩ = some (.bool (aliveB t lives nb))) := by
               have ho := HS.out.own
               rw [aliveL_length] at ho
               rcases ho.2 with ⟨_, h9⟩ | ⟨gb, c9, cur, e9, _⟩
               · omega
               · simp only [Value.slice.injEq, true_and] at e9
                 obtain ⟨rfl, rfl⟩ := e9
                 have hl := ho.lt gb rfl
                 refine ⟨gb, rfl, hl.1, hl.2, ?_, ?_⟩
                 · rw [ho.cellAt na (by omega), List.getElem?_map, aliveB, List.getD_eq_getElem?_getD, Int.toNat_natCast, List.getElem?_eq_getElem (by rw [aliveL_length]; omega)]; rfl
                 · rw [ho.cellAt nb (by omega), List.getElem?_map, aliveB, List.getD_eq_getElem?_getD, Int.toNat_natCast, List.getElem?_eq_getElem (by rw [aliveL_length]; omega)]; rfl
             obtain ⟨vb, rfl, hv1, hv2, va, vb'⟩ := HCells.out
             have HAft : Hid (∀ o w2, Below (wr.alloc o).heap.size (wr.alloc o) w2 -> Below wr.heap.size wr w2) := fun o w2 h => ptg (gal wr o) h
             clear HCells hLw
             have iA : (na : Int) < (lives.length : Int) := by omega
             have iB : (nb : Int) < (lives.length : Int) := by omega
             have iA0 : (0 : Int) <= (na : Int) := by omega
             have iB0 : (0 : Int) <= (nb : Int) := by omega
             have HD0 := hideg (fun h => arcOf_none (t := t) (lives := lives) (e := ((na : Int), (nb : Int), legs)) h)
             have HD1 := hideg (fun h => arcOf_dead (t := t) (lives := lives) (e := ((na : Int), (nb : Int), legs)) h)
             have HD2 := hideg (fun l h h' => arcOf_some (t := t) (lives := lives) (e := ((na : Int), (nb : Int), legs)) (l := l) h h')
             simp only at HD0 HD1 HD2
             go_wp2_with fail
             refine (hleg _).mono ?_
             rintro e w2 ⟨rfl, hb2⟩
             have hb2' := HAft.out _ _ hb2
             have hs2 := hb2.size
             simp only [World.size_alloc] at hs2
             have e0 : w2.cell? ⟨wr.heap.size, 0, none⟩ = some (.int .i64 na) := by rw [hb2.cell (p := ⟨wr.heap.size, 0, none⟩) (by simp)]; simp
             have e1 : w2.cell? ⟨wr.heap.size, 1, none⟩ = some (.int .i64 nb) := by rw [hb2.cell (p := ⟨wr.heap.size, 1, none⟩) (by simp)]; simp
             have t0 := (hb2'.cell (p := ⟨w1.heap.size, 0, none⟩) hsb).trans s0
             have t1 := (hb2'.cell (p := ⟨w1.heap.size, 1, none⟩) hsb).trans s1
             have xa := (hb2'.cell (p := ⟨vb, na, none⟩) hv2).trans va
             have xb := (hb2'.cell (p := ⟨vb, nb, none⟩) hv2).trans vb'
             have y1 : wr.heap.size < w2.heap.size := by omega
             have y2 : w1.heap.size < w2.heap.size := by omega
             have y3 : vb < w2.heap.size := by omega
             have HB2 := hideg hb2'
             clear hb2 hb2' hleg c0 c1 c2 va vb' HAft
             have HSk : Hid (∀ o, arcOf t lives ((na : Int), (nb : Int), legs) = [] -> SnIn w1.heap.size w1 (w2.alloc o) (.slice (some ⟨vb, 0, none⟩) lives.length vc) u (aliveL t lives) (arcsL t lives (edges.take (k + 1)))) := by
               intro o h
               have hb := ptg HB2.out (gal w2 o)
               rw [HT.out, h, List.append_nil]
               exact ⟨ownsRow_below HS.out.own hb, ownsRow_below HS.out.own2 hb, by rw [hb.block _ hsb]; exact HS.out.box, hbw.trans (hb.mono hsz)⟩
             cases hf : lgFind t legs with
             | none =>
               have HSk2 := hideg (fun o => HSk.out o (HD0.out hf))
               simp only [legV, Option.getD_none, Option.isSome_none]
               clear hf HSk HD0 HD1 HD2 xa xb e0 e1 t0 t1
               go_wp2
               go_roundw
               case rel => exact ⟨k + 1, _, by omega, by go_num, HSk2.out _⟩
               case measure => simp [intOf]; omega
             | some l =>
               simp only [legV, Option.getD_some, Option.isSome_some]
               cases ea' : aliveB t lives na with
               | false =>
                 have HSk2 := hideg (fun o => HSk.out o (HD1.out (by simp [ea'])))
                 rw [ea'] at xa
                 clear hf HSk HD0 HD1 HD2 ea'
                 go_wp2
                 go_roundw
                 case rel => exact ⟨k + 1, _, by omega, by go_num, HSk2.out _⟩
                 case measure => simp [intOf]; omega
               | true =>
                 cases eb' : aliveB t lives nb with
                 | false =>
                   have HSk2 := hideg (fun o => HSk.out o (HD1.out (by simp [eb'])))
                   rw [ea'] at xa
                   rw [eb'] at xb
                   clear hf HSk HD0 HD1 HD2 ea' eb'
                   go_wp2
                   go_roundw
                   case rel => exact ⟨k + 1, _, by omega, by go_num, HSk2.out _⟩
                   case measure => simp [intOf]; omega
                 | true =>
                   have HA := hideg (HD2.out l hf (by simp [ea', eb']))
                   rw [ea'] at xa
                   rw [eb'] at xb
                   clear hf HSk HD0 HD1 HD2 ea' eb'
                   have hu := ownsRow_below HS.out.own2 HB2.out
                   go_wp2_with (at_builtin; refine wpList_append_lies _ rfl _ _ 32 rfl w1.heap.size 65 ia (.agg #[.int .i64 0, .int .i64 0, .int .i64 0]) 3 24 ((Seq.pu 32).trans Tryz.underlying32) hia ha0 ha1 ha2 rfl (by decide) _ _ _ rfl (World.ownsRow.alloc (World.ownsRow.alloc (w := w2) hu _) _) ⟨w2.heap.size + 1, 0, none⟩ 1 1 [.int .i64 na, .int .i64 nb, .int .i64 l.2.2.2] rfl rfl ?c1 ?c2 (by decide) ?c3 ?c4 ?c5 (w2.heap.size + 1 + 1) ?c6 ?_)
                   case c1 => exact cells_three_new _ _ _ _ _ _ (by simp)
                   case c2 => intro u hu; simp at hu; rcases hu with rfl | rfl | rfl <;> rfl
                   case c3 => unfold maxLen; omega
                   case c4 => omega
                   case c5 => simp; omega
                   case c6 => simp
                   intro gg cap1 w3 hown3 hgrow hat hltg
                   have hne := own_ne HS.out.own2 HS.out.box (by decide)
                   have hbox3 : w3.heap[w1.heap.size]? = some (.cells #[.slice (some ⟨vb, 0, none⟩) lives.length vc, u] 34 (0, 0)) := by
                     rw [hgrow.block _ (by simp; omega) (Ne.symm hne), (gal _ _).block _ (by simp; omega), (gal _ _).block _ y2, HB2.out.block _ hsb]; exact HS.out.box
                   have z0 : w3.cell? ⟨w1.heap.size, 0, none⟩ = some (.slice (some ⟨vb, 0, none⟩) lives.length vc) := by rw [Lib.cell_of_heap hbox3]; rfl
                   have z1 : w3.cell? ⟨w1.heap.size, 1, none⟩ = some u := by rw [Lib.cell_of_heap hbox3]; rfl
                   have fz := frozen_at hbox3 1
                   have HBg := hideg ((((hbw.trans (HB2.out.mono hsz)).alloc (by omega) (.cells #[.int .i64 l.1, .int .i64 l.2.1, .int .i64 l.2.2.1, .int .i64 l.2.2.2] 61)).alloc (by simp; omega) (.cells #[.int .i64 na, .int .i64 nb, .int .i64 l.2.2.2] 65)).grown hgrow (by simp; omega) (fun j hj => (HS.out.own2.lt j hj).1))
                   have HS3 : Hid (SnIn w1.heap.size w1 (w3.setCell ⟨w1.heap.size, 1, none⟩ (.slice (some ⟨gg, 0, none⟩) ((arcsL t lives (edges.take k)).length + 1) cap1)) (.slice (some ⟨vb, 0, none⟩) lives.length vc) (.slice (some ⟨gg, 0, none⟩) ((arcsL t lives (edges.take k)).length + 1) cap1) (aliveL t lives) (arcsL t lives (edges.take (k + 1)))) := by
                     have hr : w3.ownsRow w1.heap.size 65 3 (.slice (some ⟨gg, 0, none⟩) ((arcsL t lives (edges.take k)).length + 1) cap1) (arcsL t lives (edges.take (k + 1))).length (enc3 (arcsL t lives (edges.take (k + 1)))) := by
                       rw [HT.out, HA.out, enc3_append, List.length_append]; exact hown3
                     have ha : w3.ownsRow w1.heap.size 4 1 (.slice (some ⟨vb, 0, none⟩) lives.length vc) (aliveL t lives).length ((aliveL t lives).map Value.bool) := by
                       have h1 := World.ownsRow.alloc (World.ownsRow.alloc (ownsRow_below HS.out.own HB2.out) (.cells #[.int .i64 l.1, .int .i64 l.2.1, .int .i64 l.2.2.1, .int .i64 l.2.2.2] 61)) (.cells #[.int .i64 na, .int .i64 nb, .int .i64 l.2.2.2] 65)
                       exact ownsRow_grown h1 (World.ownsRow.alloc (World.ownsRow.alloc hu _) _) hgrow (by decide)
                     refine ⟨ownsRow_setBox ha (own_ne ha hbox3 (by decide)), ownsRow_setBox hr (own_ne hr hbox3 (by decide)), ?_, HBg.out.setCell (p := ⟨w1.heap.size, 1, none⟩) (Nat.le_refl _) _⟩
                     simp [World.setCell, Array.getElem?_modify, hbox3]
                   clear HBg hgrow hown3 hbox3 hat hltg xa xb e0 e1 t0 t1 hu
                   go_wp2
                   go_roundw
                   case rel => exact ⟨k + 1, _, by omega, by go_num, HS3.out⟩
                   case measure => simp [intOf]; omega
           · have hke : k = edges.length := by omega
             subst hke
             rw [List.take_length] at HS
             obtain ⟨r0', r1', f0'⟩ := HRes.out
             have r0 := (hbw.cell (p := ⟨w.heap.size + 1, 0, none⟩) (by simp only; omega)).trans r0'
             have r1 := (hbw.cell (p := ⟨w.heap.size + 1, 1, none⟩) (by simp only; omega)).trans r1'
             have f0 : ∀ j, wr.frozen? ⟨w.heap.size + 1, j, none⟩ = false := fun j => (hbw.frozen (p := ⟨w.heap.size + 1, j, none⟩) (by simp only; omega)).trans (f0' j)
             obtain ⟨uo, uc, hue, _⟩ := pcAt_of_owns HS.out.own2
             subst hue
             have HF : Hid (∀ a b, BsAt ((wr.setCell ⟨w.heap.size + 1, 0, none⟩ a).setCell ⟨w.heap.size + 1, 1, none⟩ b) vo (aliveL t lives) /\ PcAt ((wr.setCell ⟨w.heap.size + 1, 0, none⟩ a).setCell ⟨w.heap.size + 1, 1, none⟩ b) uo (arcsL t lives edges)) := by
               intro a b
               have n1 : (Value.slice vo lives.length vc).ownBlock ≠ some (w.heap.size + 1) := fun h => by have := (HS.out.own.lt _ h).1; omega
               have n2 : (Value.slice uo (arcsL t lives edges).length uc).ownBlock ≠ some (w.heap.size + 1) := fun h => by have := (HS.out.own2.lt _ h).1; omega
               obtain ⟨o1, x1, h1, h2⟩ := bsAt_of_owns (ownsRow_setBox (j := 1) (u := b) (ownsRow_setBox (j := 0) (u := a) HS.out.own n1) n1)
               obtain ⟨o2, x2, h3, h4⟩ := pcAt_of_owns (ownsRow_setBox (j := 1) (u := b) (ownsRow_setBox (j := 0) (u := a) HS.out.own2 n2) n2)
               simp only [Value.slice.injEq] at h1 h3
               rw [h1.1, h3.1]
               exact ⟨h2, h4⟩
             have HBF := hideg (ptg HB1.out hbw)
             clear r0' r1' f0'
             go_wp2
             refine bodyPost_ret (v := .tuple #[.agg #[.slice vo lives.length vc, .slice uo (arcsL t lives edges).length uc], .int .i64 0]) (by simp [results, Tryz.results7, go_sem, r0, r1]) rfl ⟨vo, vc, uo, uc, by rw [aliveL_length], (HF.out _ _).1, (HF.out _ _).2, ?_⟩
             exact (HBF.out.setCell (p := ⟨w.heap.size + 1, 0, none⟩) (by simp) _).setCell (p := ⟨w.heap.size + 1, 1, none⟩) (by simp) _
 · have he : atErr g t = gChk g := by unfold atErr; rw [if_neg h0]
   rw [he, if_neg h0, if_neg h0]
   have hne : (gChk g != 0) = true := by simpa using h0
   generalize gChk g = ev at *
   clear hG he
   go_enter Seq.func7, Tryz.ntmps7
   go_wp2_with fail
   refine (hC _ _).mono ?_
   rintro e w1 ⟨rfl, hb1⟩
   have HB1 := hideg (ptg (HB.out _ _) hb1)
   have r0 : w1.cell? ⟨w.heap.size + 1, 0, none⟩ = some (.slice none 0 0) := by rw [hb1.cell (p := ⟨w.heap.size + 1, 0, none⟩) (by simp)]; simp
   have r1 : w1.cell? ⟨w.heap.size + 1, 1, none⟩ = some (.slice none 0 0) := by rw [hb1.cell (p := ⟨w.heap.size + 1, 1, none⟩) (by simp)]; simp
   have f0 : ∀ j, w1.frozen? ⟨w.heap.size + 1, j, none⟩ = false := fun j => by rw [hb1.frozen (p := ⟨w.heap.size + 1, j, none⟩) (by simp)]; simp
   clear hC hb1
   go_wp2
   refine bodyPost_ret (v := .tuple #[.agg #[.slice none 0 0, .slice none 0 0], .int .i64 ev]) (by simp [results, Tryz.results7, go_sem, r0, r1]) rfl ⟨none, 0, none, 0, rfl, .inl rfl, .inl rfl, ?_⟩
   exact (HB1.out.setCell (p := ⟨w.heap.size + 1, 0, none⟩) (by simp) _).setCell (p := ⟨w.heap.size + 1, 1, none⟩) (by simp) _
structure HeldIn (w0 : World) where
 w : World
 h : Below w0.heap.size w0 w
theorem wp_region_held {P : Program} (w0 : World) {id : Nat} {Q : Exit -> Act -> World -> Prop} {a : Act} {w : World} {l : List Oper} (h0 : Below w0.heap.size w0 w) (hm : P.follows .mixedOrders = true) (hB : Region.lexB .any l.toArray = true)
   (h : wpQuiet P l.toArray (fun w' => ∃ s : HeldIn w0, w' = s.w) (fun a' => ∀ w', (∃ s : HeldIn w0, w' = s.w) -> Q .normal a' w') l a) : (Code.region id l.toArray true).wp P Q a w :=
 wp_region_quiet (C := fun w' => ∃ s : HeldIn w0, w' = s.w) hm hB ⟨⟨_, h0.drew⟩, rfl⟩ (by simpa using h)
theorem held_of {P : Program} {f : FuncId} {args : Array Value} {w0 : World} {s : HeldIn w0} {v : Value}
   (h : Calls P f args s.w fun e w' => e = .returned v /\ Below s.w.heap.size s.w w') : Calls P f args s.w fun e w'' => e = .returned v /\ ∃ s' : HeldIn w0, w'' = s'.w :=
 h.mono fun _ w' ⟨he, hb⟩ => ⟨he, ⟨w', s.h.trans (hb.mono s.h.size)⟩, rfl⟩
theorem held_same {P : Program} {f : FuncId} {args : Array Value} {w0 : World} {s : HeldIn w0} {v : Value}
   (h : Calls P f args s.w fun e w' => e = .returned v /\ w' = s.w) : Calls P f args s.w fun e w'' => e = .returned v /\ ∃ s' : HeldIn w0, w'' = s'.w :=
 h.mono fun _ _ ⟨he, hb⟩ => ⟨he, s, hb⟩
theorem gby_of_below {w w' : World} (h : Below w.heap.size w w') (row : Option Nat) : w.grownBy w' row := ⟨h.os, h.tape, h.output, h.size, fun k hk _ => h.block k hk⟩
theorem gby_trans {a b c : World} {row : Option Nat} (h : a.grownBy b row) (k : b.grownBy c row) : a.grownBy c row :=
 ⟨k.os.trans h.os, k.tape.trans h.tape, k.output.trans h.output, Nat.le_trans h.size k.size, fun i hi hne => (k.block i (Nat.lt_of_lt_of_le hi h.size) hne).trans (h.block i hi hne)⟩
theorem gby_refl (w : World) (row : Option Nat) : w.grownBy w row := ⟨rfl, rfl, rfl, Nat.le_refl _, fun _ _ _ => rfl⟩
theorem gby_setOne (w : World) (b j : Nat) (u : Value) : w.grownBy (w.setCell ⟨b, j, none⟩ u) (some b) :=
 ⟨rfl, rfl, rfl, by simp [World.setCell], fun k _ hk => Below.heap_setCell _ _ _ _ (fun e => hk (by simp [e]))⟩
theorem wp_region_held_back {P : Program} (w0 : World) {id : Nat} {full : Array Oper} {Q : Exit -> Act -> World -> Prop} {a : Act} {w : World} (h0 : Below w0.heap.size w0 w) (hm : P.follows .mixedOrders = true) (hn : 0 < full.size) (hB : Region.lexB .any full.pop = true) (hf : fwdB full.pop = true) (hl : lastB full.pop full.back! = true)
   (h : wpQuiet P full.pop (fun w' => ∃ s : HeldIn w0, w' = s.w) (fun a' => ∀ w', (∃ s : HeldIn w0, w' = s.w) -> BackQ P full.back! Q .normal a' w') full.pop.toList a) : (Code.region id full true).wp P Q a w := by
 have e : full = full.pop.push full.back! := (Array.eq_push_pop_back!_of_size_ne_zero (by omega))
 generalize full.pop = ops at *
 generalize full.back! = st at *
 subst e
 simp only [Region.lexB, Bool.and_eq_true] at hB
 refine wp_region_any hm ?_
 have h1 : wpAny P .any ops (BackQ P st Q) ops.size (Array.replicate ops.size false) a w.drew := by
   refine wpAny_of_quiet (C := fun w' => ∃ s : HeldIn w0, w' = s.w) (Q := fun a' => ∀ w', (∃ s : HeldIn w0, w' = s.w) -> BackQ P st Q .normal a' w') (fun _ w' hw' h => h w' hw') _ _ _ _ ⟨⟨_, h0.drew⟩, rfl⟩ ?_
   have := wpAnyQ_lex (C := fun w' => ∃ s : HeldIn w0, w' = s.w) (md := .any) hB.1 ops.toList 0 (Array.replicate ops.size false) a (by simp) (by simpa using hB.2) h
   simpa using this
 have h2 := pop_sound hf hl ops.size _ a w.drew (by simp) (by
   intro j o hj hlj
   have : j < ops.size := (Array.getElem?_eq_some_iff.1 hj).1
   simp [this] at hlj) h1
 have e1 : (Array.replicate ops.size false).push false = Array.replicate (ops.push st).size false := by
   apply Array.ext
   · simp
   · intro k h1 h2
     simp [Array.getElem_push]
 rw [e1] at h2
 have e2 : (ops.push st).size = ops.size + 1 := by simp
 rw [e2] at h2 ⊢
 exact h2
theorem gby_set (w : World) (b j : Nat) (u : Value) : w.grownBy (w.setCell ⟨b, j, none⟩ u) (some b) :=
 ⟨rfl, rfl, rfl, by simp [World.setCell], fun k _ hk => Below.heap_setCell _ _ _ _ (fun e => hk (by simp [e]))⟩
theorem PcAt.grown {w w' : World} {ao : Option Addr} {m : List (Int × Int × Int)} {gb : Nat} (h : PcAt w ao m) (hg : w.grownBy w' (some gb)) (hne : ∀ b off, ao = some ⟨b, off, none⟩ -> b ≠ gb) : PcAt w' ao m := by
 rcases h with h | ⟨b, off, rfl, hlt, hc⟩
 · exact .inl h
 · have hn : some b ≠ some gb := fun e => hne b off rfl (Option.some.inj e)
   refine .inr ⟨b, off, rfl, Nat.lt_of_lt_of_le hlt hg.size, fun j hj => ?_⟩
   rw [hg.cell_far ⟨b, off + j * 3, none⟩ hlt hn, hg.cell_far ⟨b, off + j * 3 + 1, none⟩ hlt hn, hg.cell_far ⟨b, off + j * 3 + 2, none⟩ hlt hn]
   exact hc j hj
abbrev Zo (w : World) (base gb n cap : Nat) (x : List Int) : Prop := w.ownsRow base 3 1 (.slice (some ⟨gb, 0, none⟩) n cap) n (x.map (Value.int .i64))
theorem Zo.len {w : World} {base gb n cap : Nat} {x : List Int} (h : Zo w base gb n cap x) : x.length = n := by have := h.1; simpa using this
theorem Zo.cell {w : World} {base gb n cap : Nat} {x : List Int} (h : Zo w base gb n cap x) {k : Nat} (hk : k < n) : w.cell? ⟨gb, k, none⟩ = some (.int .i64 (x.getD k 0)) := by
 have hl := h.len
 rw [World.ownsRow.cellAt h k (by omega), List.getElem?_map, List.getD_eq_getElem?_getD, List.getElem?_eq_getElem (by omega)]; rfl
theorem Zo.set {w : World} {base gb n cap : Nat} {x : List Int} (h : Zo w base gb n cap x) (k : Nat) (v : Int) : Zo (w.setCell ⟨gb, k, none⟩ (.int .i64 v)) base gb n cap (x.set k v) := by
 have := (World.ownsRow.stored h k (.int .i64 v)).1
 rw [<- List.map_set] at this
 exact this
theorem Zo.below {w w' : World} {base gb n cap : Nat} {x : List Int} (h : Zo w base gb n cap x) (hb : Below w.heap.size w w') : Zo w' base gb n cap x := ownsRow_below h hb
def rdL (w : World) (gb n : Nat) : List Int := (List.range n).map fun j => intOf ((w.cell? ⟨gb, j, none⟩).getD (.int .i64 0))
theorem Zo.rd {w : World} {base gb n cap : Nat} {x : List Int} (h : Zo w base gb n cap x) : rdL w gb n = x := by
 have hl := h.len
 apply List.ext_getElem (by simp [rdL, hl])
 intro i h1 h2
 simp only [rdL, List.getElem_map, List.getElem_range]
 rw [h.cell (k := i) (by omega), List.getD_eq_getElem?_getD, List.getElem?_eq_getElem h2]; rfl
def flagOf : Value -> Nat
 | .bool true => 1
 | _ => 0
theorem isVertex_any (ao bo : Option Addr) (n ca m cb : Nat) (v : Int) (w : World) :
   Calls Seq.prog 48 #[.agg #[.slice ao n ca, .slice bo m cb], .int .i64 v] w fun e w' => e = .returned (.bool (vtx n v)) /\ Below w.heap.size w w' := by
 have HB := hidep (pal w)
 by_cases h1 : 0 <= v
 · by_cases h2 : v < (n : Int)
   · have HC := hidep ((vtx_iff n v).2 ⟨h1, h2⟩)
     go_enter Seq.func48, Tryz.ntmps48
     go_wp2
     go_ret
     exact ⟨retp_bool HC.out.symm, HB.out _⟩
   · have HC : Hid (vtx n v = false) := by show _ = _; rw [<- Bool.not_eq_true, vtx_iff]; omega
     go_enter Seq.func48, Tryz.ntmps48
     go_wp2
     go_ret
     exact ⟨retp_bool HC.out.symm, HB.out _⟩
 · have HC : Hid (vtx n v = false) := by show _ = _; rw [<- Bool.not_eq_true, vtx_iff]; omega
   go_enter Seq.func48, Tryz.ntmps48
   go_wp2
   go_ret
   exact ⟨retp_bool HC.out.symm, HB.out _⟩
theorem plAlive_any (ao bo : Option Addr) (ca m cb : Nat) (al : List Bool) (v : Int) (w : World) (hA : BsAt w ao al) :
   Calls Seq.prog 47 #[.agg #[.slice ao al.length ca, .slice bo m cb], .int .i64 v] w fun e w' => e = .returned (.bool (alv al v)) /\ Below w.heap.size w w' := by
 have HB := hidep (pal w)
 cases hv : vtx al.length v with
 | false =>
   have HC := hidep (alv_no hv)
   have h1 := fun W => isVertex_any ao bo al.length ca m cb v W
   rw [hv] at h1
   clear hv hA
   go_enter Seq.func47, Tryz.ntmps47
   go_wp2_with (go_at_call 48; refine (h1 _).mono ?_; rintro e w1 ⟨rfl, hb1⟩)
   go_ret
   exact ⟨retp_bool HC.out.symm, ptw (HB.out _) hb1⟩
 | true =>
   have HC := hidep (alv_yes hv)
   have h1 := fun W => isVertex_any ao bo al.length ca m cb v W
   rw [hv] at h1
   have hr := (vtx_iff _ _).1 hv
   clear hv
   obtain ⟨k, rfl⟩ : ∃ k : Nat, v = (k : Int) := ⟨v.toNat, by omega⟩
   have hk : k < al.length := by omega
   rw [Int.toNat_natCast, List.getD_eq_getElem?_getD, List.getElem?_eq_getElem hk, Option.getD_some] at HC
   rcases hA with h0 | ⟨b, off, rfl, hlt, hc⟩
   · subst h0; simp at hk
   have c0 := BsAt.at1 hk hc
   have hk1 : (0 : Int) <= (k : Int) := by omega
   have hk2 : (k : Int) < (al.length : Int) := by omega
   clear hc hr
   generalize al[k] = x at HC c0
   generalize al.length = n at *
   go_enter Seq.func47, Tryz.ntmps47
   go_wp2_with fail
   refine (h1 _).mono ?_
   rintro e w1 ⟨rfl, hb1⟩
   have hz := hb1.size
   simp only [World.size_alloc] at hz
   have q0 : w1.cell? ⟨w.heap.size, 0, none⟩ = some (.slice (some ⟨b, off, none⟩) n ca) := by rw [hb1.cell (p := ⟨w.heap.size, 0, none⟩) (by simp)]; simp
   have c1 : w1.cell? ⟨b, off + k, none⟩ = some (.bool x) := by rw [(ptw (HB.out _) hb1).cell (p := ⟨b, off + k, none⟩) hlt]; exact c0
   have HB1 := hidep (ptw (HB.out _) hb1)
   clear hb1
   go_wp2
   go_ret
   exact ⟨retp_bool HC.out.symm, HB1.out⟩
set_option maxRecDepth 100000 in
set_option maxHeartbeats 4000000 in
theorem plCheck_any (ao bo : Option Addr) (ca cb : Nat) (al : List Bool) (arcs : List Ac) (w : World) (hA : BsAt w ao al) (hR : PcAt w bo arcs) :
   Calls Seq.prog 23 #[.agg #[.slice ao al.length ca, .slice bo arcs.length cb]] w fun e w' => e = .returned (.int .i64 (shot al arcs)) /\ Below w.heap.size w w' := by
 have HB := hidep (pal w)
 by_cases n1 : 12 < al.length
 · have HC := hidep (shot_large (al := al) (arcs := arcs) (.inl n1))
   clear hA hR
   go_enter Seq.func23, Tryz.ntmps23
   go_wp2
   go_ret
   exact ⟨retp_int HC.out.symm, HB.out _⟩
 by_cases n2 : 30 < arcs.length
 · have HC := hidep (shot_large (al := al) (arcs := arcs) (.inr n2))
   clear hA hR
   go_enter Seq.func23, Tryz.ntmps23
   go_wp2
   go_ret
   exact ⟨retp_int HC.out.symm, HB.out _⟩
 have HN : Hid (¬ (12 < al.length \/ 30 < arcs.length)) := by show ¬ _; omega
 have hl30 : arcs.length <= 30 := by omega
 go_enter Seq.func23, Tryz.ntmps23
 go_wp2
 go_loopw [4, 20] (fun _ i wr => ∃ k : Nat, k <= arcs.length /\ i = .int .i64 k /\ (arcs.take k).all (endsB al) = true /\ Below (w.heap.size + 1) (w.alloc (.cells #[.slice ao al.length ca, .slice bo arcs.length cb] 34)) wr) (fun _ i _ => arcs.length - (intOf i).toNat)
 case atStart => exact ⟨0, Nat.zero_le _, rfl, rfl, Below.refl _ _⟩
 case round =>
   obtain ⟨k, hk, rfl, hI, hb⟩ := hrel
   have HI := hidep hI
   clear hI
   have hbw : Below w.heap.size w wr := (HB.out _).trans (hb.mono (by omega))
   have hz := hb.size
   simp only [World.size_alloc] at hz
   have hz0 : w.heap.size < wr.heap.size := by omega
   have q0 : wr.cell? ⟨w.heap.size, 0, none⟩ = some (.slice ao al.length ca) := by rw [hb.cell (p := ⟨w.heap.size, 0, none⟩) (by simp)]; simp
   have q1 : wr.cell? ⟨w.heap.size, 1, none⟩ = some (.slice bo arcs.length cb) := by rw [hb.cell (p := ⟨w.heap.size, 1, none⟩) (by simp)]; simp
   by_cases hlt : k < arcs.length
   · have hA2 := hA.below hbw
     rcases hR.below hbw with h0 | ⟨b, off, rfl, hbr, hc⟩
     · subst h0; simp at hlt
     obtain ⟨c0, c1, c2⟩ := PcAt.at3 hlt hc
     have HNX : Hid (∀ o w1, Below (wr.alloc o).heap.size (wr.alloc o) w1 -> Below w.heap.size w w1 /\ Below (w.heap.size + 1) (w.alloc (.cells #[.slice ao al.length ca, .slice (some ⟨b, off, none⟩) arcs.length cb] 34)) w1) := by
       intro o w1 h1
       have h2 := ptw (pal wr o) h1
       exact ⟨ptw hbw h2, hb.trans (h2.mono (by omega))⟩
     have h1 := fun W (hW : Below wr.heap.size wr W) v => plAlive_any ao (some ⟨b, off, none⟩) ca arcs.length cb al v W (hA2.below hW)
     have HAL := hidep (pal wr)
     clear hc hR hA hA2
     cases e1 : alv al arcs[k].1 with
     | false =>
       have HE := hidep (shot_none HN.out hlt (show endsB al arcs[k] = false by unfold endsB; rw [e1]; rfl))
       have g1 := fun W hW => h1 W hW arcs[k].1
       rw [e1] at g1
       clear h1 e1
       go_wp2_with (go_at_call 47; refine (g1 _ (HAL.out _)).mono ?_; rintro e w1 ⟨rfl, hb1⟩)
       go_ret
       exact ⟨retp_int HE.out.symm, (HNX.out _ _ hb1).1⟩
     | true =>
       have g1 := fun W hW => h1 W hW arcs[k].1
       rw [e1] at g1
       cases e2 : alv al arcs[k].2.1 with
       | false =>
         have HE := hidep (shot_none HN.out hlt (show endsB al arcs[k] = false by unfold endsB; rw [e1, e2]; rfl))
         have g2 := fun W hW => h1 W hW arcs[k].2.1
         rw [e2] at g2
         clear h1 e1 e2
         go_wp2_with fail
         refine (g1 _ (HAL.out _)).mono ?_
         rintro e w1 ⟨rfl, hb1⟩
         have hb2 := ptw (HAL.out _) hb1
         have d0 := (hb2.cell (p := ⟨w.heap.size, 0, none⟩) hz0).trans q0
         have d1 := (hb2.cell (p := ⟨w.heap.size, 1, none⟩) hz0).trans q1
         have x1 : w1.cell? ⟨wr.heap.size, 1, none⟩ = some (.int .i64 arcs[k].2.1) := by rw [hb1.cell (p := ⟨wr.heap.size, 1, none⟩) (by simp)]; simp
         have hz1 := hb1.size
         simp only [World.size_alloc] at hz1
         have hz2 : w.heap.size < w1.heap.size := by omega
         have HN1 := hidep (HNX.out _ _ hb1)
         clear hb1 q0 q1 c0 c1 c2 hb
         go_wp2_with fail
         refine (g2 _ hb2).mono ?_
         rintro e w2 ⟨rfl, hb3⟩
         go_wp2
         go_ret
         exact ⟨retp_int HE.out.symm, ptw HN1.out.1 hb3⟩
       | true =>
         have HE := hidep (all_take_succ hlt HI.out (show endsB al arcs[k] = true by unfold endsB; rw [e1, e2]; rfl))
         have g2 := fun W hW => h1 W hW arcs[k].2.1
         rw [e2] at g2
         clear h1 e1 e2
         go_wp2_with fail
         refine (g1 _ (HAL.out _)).mono ?_
         rintro e w1 ⟨rfl, hb1⟩
         have hb2 := ptw (HAL.out _) hb1
         have d0 := (hb2.cell (p := ⟨w.heap.size, 0, none⟩) hz0).trans q0
         have d1 := (hb2.cell (p := ⟨w.heap.size, 1, none⟩) hz0).trans q1
         have x1 : w1.cell? ⟨wr.heap.size, 1, none⟩ = some (.int .i64 arcs[k].2.1) := by rw [hb1.cell (p := ⟨wr.heap.size, 1, none⟩) (by simp)]; simp
         have hz1 := hb1.size
         simp only [World.size_alloc] at hz1
         have hz2 : w.heap.size < w1.heap.size := by omega
         have HN1 := hidep (HNX.out _ _ hb1)
         clear hb1 q0 q1 c0 c1 c2 hb
         go_wp2_with fail
         refine (g2 _ hb2).mono ?_
         rintro e w2 ⟨rfl, hb3⟩
         go_wp2
         go_roundw
         case rel => exact ⟨k + 1, by omega, by go_num, HE.out, HN1.out.2.trans (hb3.mono (by omega))⟩
         case measure => simp [intOf]; omega
   · have hkl : k = arcs.length := by omega
     subst hkl
     have HE := hidep (all_take_end HI.out)
     have hR2 := hR.below hbw
     have HBW := hidep hbw
     clear hR hA hbw hb HI
     obtain ⟨wo, rfl⟩ : ∃ x, x = wr := ⟨_, rfl⟩
     go_wp2
     go_loopw [6, 40] (fun _ i wr => ∃ k : Nat, k <= arcs.length /\ i = .int .i64 k /\ (arcs.take k).all costB = true /\ Below wo.heap.size wo wr) (fun _ i _ => arcs.length - (intOf i).toNat)
     case atStart => exact ⟨0, Nat.zero_le _, rfl, rfl, Below.refl _ _⟩
     case round =>
       obtain ⟨k, hk, rfl, hI, hb⟩ := hrel
       have HI := hidep hI
       clear hI
       have hz := hb.size
       by_cases hlt : k < arcs.length
       · rcases hR2.below hb with h0 | ⟨b, off, rfl, hbr, hc⟩
         · subst h0; simp at hlt
         obtain ⟨c0, c1, c2⟩ := PcAt.at3 hlt hc
         have HNX : Hid (∀ o, Below wo.heap.size wo (wr.alloc o)) := fun o => ptw hb (pal wr o)
         clear hc hR2
         by_cases g1 : arcs[k].2.2 < 0
         · have HC := hidep (shot_cost HN.out HE.out hlt (show costB arcs[k] = false by rw [<- Bool.not_eq_true, costB_iff]; omega))
           go_wp2
           go_ret
           exact ⟨retp_int HC.out.symm, ptw HBW.out (HNX.out _)⟩
         · by_cases g2 : 1000 < arcs[k].2.2
           · have HC := hidep (shot_cost HN.out HE.out hlt (show costB arcs[k] = false by rw [<- Bool.not_eq_true, costB_iff]; omega))
             go_wp2
             go_ret
             exact ⟨retp_int HC.out.symm, ptw HBW.out (HNX.out _)⟩
           · have HC := hidep (all_take_succ hlt HI.out (show costB arcs[k] = true by rw [costB_iff]; omega))
             go_wp2
             go_roundw
             case rel => exact ⟨k + 1, by omega, by go_num, HC.out, HNX.out _⟩
             case measure => simp [intOf]; omega
       · have hkl : k = arcs.length := by omega
         subst hkl
         have HC := hidep (shot_ok HN.out HE.out (all_take_end HI.out))
         go_wp2
         go_ret
         exact ⟨retp_int HC.out.symm, ptw HBW.out hb⟩
theorem take_set_succ {x : List Int} {k : Nat} {v : Int} (hk : k < x.length) : (x.set k v).take (k + 1) = x.take k ++ [v] := by
 rw [List.take_succ_eq_append_getElem (by simpa using hk), List.getElem_set_self, List.take_set_of_le (Nat.le_refl _)]
set_option maxRecDepth 100000 in
set_option maxHeartbeats 4000000 in
theorem ofAlive_any (g : Nat) (caps : Array Value) (f : Int -> Int) (eg : ∀ args w, (callFunc g args).run Seq.prog w = .ok (.enter g args) w) (ao bo : Option Addr) (ca m cb : Nat) (al : List Bool) (w : World) (hA : BsAt w ao al) (h12 : al.length <= 12)
   (hf : ∀ (v : Nat) wq, v < al.length -> Below w.heap.size w wq -> Calls Seq.prog g (#[.int .i64 v] ++ caps) wq fun e w' => e = .returned (.int .i64 (f v)) /\ Below wq.heap.size wq w') :
   Calls Seq.prog 24 #[.agg #[.slice ao al.length ca, .slice bo m cb], .func (.func g) #[] caps] w fun e w' => ∃ gb, e = .returned (.slice (some ⟨gb, 0, none⟩) al.length al.length) /\ Zo w' w.heap.size gb al.length al.length (firstL al f) /\ Below w.heap.size w w' := by
 obtain ⟨i0, hi, hz0, hz1, hz2⟩ := info_parts Tryz.infoInt
 have HB := hidep (pal w)
 have HF := hidep hf
 clear hf
 go_enter Seq.func24, Tryz.ntmps24
 go_wp2_with (at_make; refine wpList_make_full _ rfl _ _ 38 rfl w.heap.size 3 i0 (.int .i64 0) 1 ((Seq.pu 38).trans Tryz.underlying38) hi hz0 hz1 .i64 .i64 _ _ al.length rfl rfl rfl rfl (by rw [hz2]; omega) (by unfold maxLen; omega) (by simp) ?_; intro w0 hown0 hgrow0)
 have hb0 : Below w.heap.size w w0 := (HB.out _).grown hgrow0 (by simp) (fun k hk => by cases hk)
 have hs0 : w0.cell? ⟨w.heap.size, 0, none⟩ = some (.slice ao al.length ca) := by rw [hgrow0.cell_far ⟨w.heap.size, 0, none⟩ (by simp) (by simp)]; simp
 have hz0' := hgrow0.size
 simp only [World.size_alloc] at hown0 hz0'
 have HZ : Hid (Zo w0 w.heap.size (w.heap.size + 1) al.length al.length (List.replicate al.length 0)) := by
   have e1 : (madeCells (Value.int .i64 0).cells (al.length * 1)).toList = (List.replicate al.length 0).map (Value.int .i64) := by
     rw [Nat.mul_one]
     show (madeCells #[Value.int .i64 0] al.length).toList = _
     rw [toList_madeCells_one, List.map_replicate]
   rw [e1] at hown0
   exact hown0
 clear hown0 hgrow0
 go_loopw [6, 13] (fun _ i wr => ∃ (k : Nat) (x : List Int), k <= al.length /\ i = .int .i64 k /\ x.take k = (firstL al f).take k /\ Zo wr w.heap.size (w.heap.size + 1) al.length al.length x /\ wr.cell? ⟨w.heap.size, 0, none⟩ = some (.slice ao al.length ca) /\ Below w.heap.size w wr) (fun _ i _ => al.length - (intOf i).toNat)
 case atStart => exact ⟨0, _, Nat.zero_le _, rfl, by simp, HZ.out, hs0, hb0⟩
 case round =>
   obtain ⟨k, x, hk, rfl, hx, hown, hs, hb⟩ := hrel
   have HX := hidep hx
   have HO := hidep hown
   have hxl := hown.len
   have hz := hb.size
   have hlt1 := hown.lt (w.heap.size + 1) rfl
   clear hx
   by_cases hlt : k < al.length
   · have ck := hown.cell hlt
     have fz := hown.frozenAt k
     rcases hA.below hb with h0 | ⟨b, off, rfl, hbr, hc⟩
     · subst h0; simp at hlt
     have c0 := BsAt.at1 hlt hc
     have hbw : b < w.heap.size := by
       rcases hA with h0 | ⟨b', off', e, h, _⟩
       · subst h0; simp at hlt
       · cases e; exact h
     have hki : (k : Int) < (al.length : Int) := by omega
     have HT := hidep (firstL_take al f k hlt)
     rw [List.getD_eq_getElem?_getD, List.getElem?_eq_getElem hlt, Option.getD_some] at HT
     have HS : Hid (∀ v : Int, Zo (wr.setCell ⟨w.heap.size + 1, k, none⟩ (.int .i64 v)) w.heap.size (w.heap.size + 1) al.length al.length (x.set k v) /\ Below w.heap.size w (wr.setCell ⟨w.heap.size + 1, k, none⟩ (.int .i64 v))) := fun v => ⟨hown.set k v, hb.setCell (by simp) _⟩
     clear hc hown hA
     cases ea : al[k] with
     | false =>
       rw [ea] at c0 HT
       simp only [Bool.false_eq_true, if_false] at HT
       have HX' : Hid ((x.set k 1099511627776).take (k + 1) = (firstL al f).take (k + 1)) := by show _ = _; rw [take_set_succ (by omega), HX.out, HT.out]
       clear ea
       generalize x.getD k 0 = xk at ck
       go_wp2
       go_roundw
       case rel => exact ⟨k + 1, _, by omega, by go_num, HX'.out, (HS.out _).1, ((gby_set wr _ _ _).cell_far ⟨w.heap.size, 0, none⟩ (by show w.heap.size < _; omega) (by simp)).trans hs, (HS.out _).2⟩
       case measure => simp [intOf]; omega
     | true =>
       rw [ea] at c0 HT
       simp only [if_true] at HT
       have HX' : Hid (((x.set k 1099511627776).set k (f k)).take (k + 1) = (firstL al f).take (k + 1)) := by show _ = _; rw [List.set_set, take_set_succ (by omega), HX.out, HT.out]
       clear ea
       generalize x.getD k 0 = xk at ck
       have hcl := HF.out k (wr.setCell ⟨w.heap.size + 1, k, none⟩ (.int .i64 1099511627776)) hlt (HS.out _).2
       go_wp2_with fail
       refine hcl.mono ?_
       rintro e w2 ⟨rfl, hb2⟩
       have Z2 := (HS.out 1099511627776).1.below hb2
       have q0 := Z2.cell hlt
       have q1 := World.ownsRow.frozenAt Z2 k
       have hs2 : w2.cell? ⟨w.heap.size, 0, none⟩ = some (.slice (some ⟨b, off, none⟩) al.length ca) := by rw [hb2.cell (p := ⟨w.heap.size, 0, none⟩) (by show w.heap.size < (wr.setCell _ _).heap.size; have := (gby_set wr (w.heap.size + 1) k (.int .i64 1099511627776)).size; omega)]; exact ((gby_set wr _ _ _).cell_far ⟨w.heap.size, 0, none⟩ (by show w.heap.size < _; omega) (by simp)).trans hs
       have HZ3 := hidep (Z2.set k (f k))
       have HB3 := hidep ((ptw (HS.out 1099511627776).2 hb2).setCell (p := ⟨w.heap.size + 1, k, none⟩) (by simp) (.int .i64 (f k)))
       have hlt2 := (World.ownsRow.lt Z2 (w.heap.size + 1) rfl).2
       generalize (x.set k 1099511627776).getD k 0 = xk2 at q0
       clear hb2 Z2
       go_wp2
       go_roundw
       case rel => exact ⟨k + 1, _, by omega, by go_num, HX'.out, HZ3.out, ((gby_set w2 _ _ _).cell_far ⟨w.heap.size, 0, none⟩ (by show w.heap.size < _; omega) (by simp)).trans hs2, HB3.out⟩
       case measure => simp [intOf]; omega
   · have hkl : k = al.length := by omega
     have HE : Hid (x = firstL al f) := by
       have h1 := HX.out
       rw [hkl] at h1
       rw [List.take_of_length_le (by omega), List.take_of_length_le (by rw [firstL_length]; omega)] at h1
       exact h1
     go_wp2
     go_ret
     refine ⟨_, rfl, ?_, hb⟩
     rw [<- HE.out]; exact HO.out
theorem arc_parts {arcs : List Ac} {n k : Nat} (hE : EndsIn n arcs) (hk : k < arcs.length) : ∃ (A B : Nat), A < n /\ B < n /\ arcs[k].1 = (A : Int) /\ arcs[k].2.1 = (B : Int) := by
 have h := hE _ (List.getElem_mem hk)
 exact ⟨arcs[k].1.toNat, arcs[k].2.1.toNat, by omega, by omega, by omega, by omega⟩
set_option maxRecDepth 100000 in
set_option maxHeartbeats 4000000 in
theorem spread_any (g : Nat) (caps : Array Value) (p : Ac -> Int) (eg : ∀ args w, (callFunc g args).run Seq.prog w = .ok (.enter g args) w) (base gb n : Nat) (bo : Option Addr) (cb : Nat) (first x0 : List Int) (arcs : List Ac) (w : World)
   (hZ : Zo w base gb n n x0) (hR : PcAt w bo arcs) (hne : arcs ≠ [] -> ∀ b off, bo = some ⟨b, off, none⟩ -> b ≠ gb) (F : Fine first arcs p) (M : Mid first arcs p x0) (hn : first.length = n) (h60 : arcs.length <= 60)
   (hf : ∀ a ∈ arcs, ∀ wq, Calls Seq.prog g (#[.agg #[.int .i64 a.1, .int .i64 a.2.1, .int .i64 a.2.2]] ++ caps) wq fun e w' => e = .returned (.int .i64 (p a)) /\ Below wq.heap.size wq w') :
   Calls Seq.prog 26 #[.slice (some ⟨gb, 0, none⟩) n n, .slice bo arcs.length cb, .func (.func g) #[] caps] w fun e w' => e = .returned (.tuple #[]) /\ ∃ z, Best first arcs p z /\ Zo w' base gb n n z /\ w.grownBy w' (some gb) := by
 have HF := hidep hf
 have HFine := hidep F
 have HEn := hidep (show EndsIn n arcs by rw [<- hn]; exact F.en)
 clear hf
 have HM := hidep M
 have HZ0 := hidep hZ
 clear F M hZ
 go_enter Seq.func26, Tryz.ntmps26
 go_wp2
 go_loopw [6, 8, 9] (fun ch _ _ wr => ∃ (c : Bool) (x : List Int), ch = .bool c /\ Mid first arcs p x /\ (c = false -> Best first arcs p x) /\ Zo wr base gb n n x /\ w.grownBy wr (some gb)) (fun ch _ _ wr => 2 * msum (rdL wr gb n) + flagOf ch)
 case atStart => exact ⟨true, x0, rfl, HM.out, (fun h => by cases h), HZ0.out, gby_refl _ _⟩
 case round =>
   obtain ⟨c, x, rfl, hM, hBst, hZ, hG⟩ := hrel
   cases c with
   | false =>
     have HB := hidep (hBst rfl)
     go_wp2
     go_end0
     exact ⟨rfl, x, HB.out, hZ, hG⟩
   | true =>
     have HMx := hidep hM
     have HZx := hidep hZ
     have HGx := hidep hG
     clear hBst hM hZ hG
     obtain ⟨wo, rfl⟩ : ∃ x, x = wr := ⟨_, rfl⟩
     go_wp2
     go_loopw [6, 8, 9, 13] (fun ch _ _ i wr => ∃ (k : Nat) (c : Bool) (z : List Int), k <= arcs.length /\ i = .int .i64 k /\ ch = .bool c /\ Turn first arcs p x z c k /\ Zo wr base gb n n z /\ w.grownBy wr (some gb)) (fun _ _ _ i _ => arcs.length - (intOf i).toNat)
     case atStart => exact ⟨0, false, x, Nat.zero_le _, rfl, rfl, turn_start HMx.out, HZx.out, HGx.out⟩
     case round =>
       obtain ⟨k, c, z, hk, rfl, rfl, hT, hZ, hG⟩ := hrel
       have HT := hidep hT
       have HZ := hidep hZ
       have HG := hidep hG
       by_cases hlt : k < arcs.length
       · rcases hR.grown hG (hne (fun h => by subst h; simp at hlt)) with h0 | ⟨b, off, rfl, hbr, hc⟩
         · subst h0; simp at hlt
         obtain ⟨c0, c1, c2⟩ := PcAt.at3 hlt hc
         obtain ⟨A, B, hA, hB, eA, eB⟩ := arc_parts HEn.out hlt
         have hm : arcs[k] ∈ arcs := List.getElem_mem hlt
         have hcl := HF.out _ hm
         have hp := HFine.out.pl _ hm
         have hvA : vat z arcs[k].1 = z.getD A 0 := by unfold vat; rw [eA]; rfl
         have hvB : vat z arcs[k].2.1 = z.getD B 0 := by unfold vat; rw [eB]; rfl
         have b1 := hT.mid.lo HFine.out A (by omega)
         have b2 := hT.mid.hi HFine.out A (by omega)
         have zA := hZ.cell hA
         have zB := hZ.cell hB
         have fB := World.ownsRow.frozenAt hZ B
         have HLS : Hid (z.getD A 0 + p arcs[k] < z.getD B 0 -> Turn first arcs p x (z.set B (z.getD A 0 + p arcs[k])) true (k + 1)) := by
           intro h
           have := turn_less HFine.out HT.out hlt (by rw [hvA, hvB]; exact h)
           rw [hvA, eB] at this
           exact this
         have HST : Hid (¬ z.getD A 0 + p arcs[k] < z.getD B 0 -> Turn first arcs p x z c (k + 1)) := fun h => turn_stay HT.out hlt (by rw [hvA, hvB]; exact h)
         rw [eA] at c0
         rw [eB] at c1
         rw [eA, eB] at hcl
         clear hT hvA hvB eA eB hm
         generalize p arcs[k] = pa at *
         generalize arcs[k].2.2 = ac at *
         generalize z.getD A 0 = tA at *
         generalize hzB : z.getD B 0 = tB at *
         clear hzB hc
         have hgl := World.ownsRow.lt hZ gb rfl
         have hiA : (A : Int) < (n : Int) := by omega
         have hiB : (B : Int) < (n : Int) := by omega
         have hw1 : IntKind.i64.wrap (tA + pa) = tA + pa := wrap_small _ (by omega) (by omega)
         have hne2 : Nonempty (HeldIn (wr.alloc (.cells #[.int .i64 (A : Int), .int .i64 (B : Int), .int .i64 ac] 65))) := ⟨⟨_, Below.refl _ _⟩⟩
         have f0 : ∀ s : HeldIn (wr.alloc (.cells #[.int .i64 (A : Int), .int .i64 (B : Int), .int .i64 ac] 65)), s.w.cell? ⟨wr.heap.size, 0, none⟩ = some (.int .i64 A) := fun s => by rw [s.h.cell (p := ⟨wr.heap.size, 0, none⟩) (by simp)]; simp
         have f1 : ∀ s : HeldIn (wr.alloc (.cells #[.int .i64 (A : Int), .int .i64 (B : Int), .int .i64 ac] 65)), s.w.cell? ⟨wr.heap.size, 1, none⟩ = some (.int .i64 B) := fun s => by rw [s.h.cell (p := ⟨wr.heap.size, 1, none⟩) (by simp)]; simp
         have f2 : ∀ s : HeldIn (wr.alloc (.cells #[.int .i64 (A : Int), .int .i64 (B : Int), .int .i64 ac] 65)), s.w.cell? ⟨wr.heap.size, 2, none⟩ = some (.int .i64 ac) := fun s => by rw [s.h.cell (p := ⟨wr.heap.size, 2, none⟩) (by simp)]; simp
         have f3 : ∀ s : HeldIn (wr.alloc (.cells #[.int .i64 (A : Int), .int .i64 (B : Int), .int .i64 ac] 65)), s.w.cell? ⟨gb, A, none⟩ = some (.int .i64 tA) := fun s => by rw [s.h.cell (p := ⟨gb, A, none⟩) (by simp; omega), (pal wr _).cell (p := ⟨gb, A, none⟩) hgl.2]; exact zA
         have HQ : Hid (∀ w1, Below (wr.alloc (.cells #[.int .i64 (A : Int), .int .i64 (B : Int), .int .i64 ac] 65)).heap.size (wr.alloc (.cells #[.int .i64 (A : Int), .int .i64 (B : Int), .int .i64 ac] 65)) w1 -> w1.cell? ⟨wr.heap.size, 1, none⟩ = some (.int .i64 B) /\ w1.cell? ⟨gb, B, none⟩ = some (.int .i64 tB) /\ w1.frozen? ⟨gb, B, none⟩ = false /\ wr.heap.size < w1.heap.size /\ gb < w1.heap.size /\ Zo w1 base gb n n z /\ w.grownBy w1 (some gb)) := by
           intro w1 h1
           have h2 := ptw (pal wr _) h1
           have hz := h1.size
           simp only [World.size_alloc] at hz
           exact ⟨by rw [h1.cell (p := ⟨wr.heap.size, 1, none⟩) (by simp)]; simp, by rw [h2.cell (p := ⟨gb, B, none⟩) hgl.2]; exact zB, by rw [h2.frozen (p := ⟨gb, B, none⟩) hgl.2]; exact fB, by omega, by omega, HZ.out.below h2, gby_trans HG.out (gby_of_below h2 _)⟩
         clear hZ hG zA zB fB hR
         go_wp2_with fail
         refine wp_region_held _ (Below.refl _ _) (by kernel_rfl) (by kernel_rfl) ?_
         repeat (go_big_quiet_step ((go_at_fn g; exact held_of (hcl _))))
         refine wpQuiet_nil ?_
         rintro _ ⟨s, rfl⟩
         have hbs := HQ.out _ s.h
         generalize s.w = w1 at hbs ⊢
         obtain ⟨q1, q2, q3, q4, q5, q6, q7⟩ := hbs
         have HZ1 := hidep q6
         have HG1 := hidep q7
         clear f0 f1 f2 f3 hne2 HQ q6 q7 hcl s c0 c1 c2
         by_cases hls : tA + pa < tB
         · have HT' := hidep (HLS.out (by omega))
           go_wp2
           go_roundw
           case rel => exact ⟨k + 1, true, _, by omega, by go_num, rfl, HT'.out, HZ1.out.set B _, gby_trans HG1.out (gby_set _ _ _ _)⟩
           case measure => simp [intOf]; omega
         · have HT' := hidep (HST.out (by omega))
           go_wp2
           go_roundw
           case rel => exact ⟨k + 1, c, _, by omega, by go_num, rfl, HT'.out, HZ1.out, HG1.out⟩
           case measure => simp [intOf]; omega
       · have hkl : k = arcs.length := by omega
         subst hkl
         have HRD := hidep hZ.rd
         have HRO := hidep HZx.out.rd
         clear hT hZ hG
         go_wp2
         go_roundw
         case rel => exact ⟨c, z, rfl, HT.out.mid, (fun h => by subst h; exact turn_end HT.out), HZ.out, HG.out⟩
         case measure =>
           rw [HRD.out, HRO.out]
           cases c with
           | false => rw [(HT.out.same rfl).1]; simp [flagOf]
           | true => have := HT.out.less rfl; simp [flagOf]; omega
def blkOf : Value -> Nat
 | .slice (some a) _ _ => a.block
 | _ => 0
structure RoundsIs (arcs : List Ac) (p : Ac -> Int) (back : Bool) (first x : List Int) (k : Nat) : Prop where
 is : x = rnds arcs p back k first
 stop : rnd arcs p back x = x
 on : ∀ j, j < k -> ¬ rnd arcs p back (rnds arcs p back j first) = rnds arcs p back j first
def begF (prog fr : Int) (v : Int) : Int := if prog = 3 then v else fromF fr v
def pricZ (prog : Nat) (a : Ac) : Int := if prog = 1 then 1 else if prog = 2 then a.2.2 else 0
theorem rounds_best {arcs : List Ac} {p : Ac -> Int} {back : Bool} {first x : List Int} {k : Nat} (F : Fine first (ways back arcs) p) (he : back = true -> Even p) (R : RoundsIs arcs p back first x k) : Best first (ways back arcs) p x := by
 have go : ∀ k, Mid first (ways back arcs) p (rnds arcs p back k first) := by
   intro k
   induction k with
   | zero => exact mid_start _ _ _
   | succ k ih => exact (rn_round F he ih).mid
 have hM : Mid first (ways back arcs) p x := by rw [R.is]; exact go k
 exact rnd_end F he hM R.stop
theorem pricZ_even : Even (pricZ 3) := fun _ => rfl
theorem fine_prog {al : List Bool} {arcs : List Ac} (S : Shot al arcs) (fr : Int) {prog : Nat} (hp : prog = 1 \/ prog = 2 \/ prog = 3) : Fine (firstL al (begF prog fr)) (ways (decide (prog = 3)) arcs) (pricZ prog) /\ (decide (prog = 3) = true -> Even (pricZ prog)) := by
 have nv := S.nv
 rcases hp with rfl | rfl | rfl
 · exact ⟨S.fine (fun v _ => fromF_bounds fr v) (fun a _ => by unfold pricZ; simp), fun h => by simp at h⟩
 · exact ⟨S.fine (fun v _ => fromF_bounds fr v) (fun a ha => by unfold pricZ; simpa using S.cost a ha), fun h => by simp at h⟩
 · exact ⟨S.bothW (fun v hv => by unfold begF; simp; omega) (fun a _ => by unfold pricZ; simp) pricZ_even, fun _ => pricZ_even⟩
abbrev P3 := Int × Int × Int
def updF {α : Type} (f : Nat -> α) (v : Nat) (x : α) : Nat -> α := fun i => if i = v then x else f i
theorem updF_same {α : Type} (f : Nat -> α) (v : Nat) (x : α) : updF f v x v = x := by simp [updF]
theorem updF_far {α : Type} (f : Nat -> α) {v i : Nat} (x : α) (h : i ≠ v) : updF f v x i = f i := by simp [updF, h]
theorem map_updF (n v : Nat) (val : Nat -> Value) (x : Value) : ((List.range n).map val).set v x = (List.range n).map (updF val v x) := by
 apply List.ext_getElem (by simp)
 intro i h1 h2
 simp only [List.getElem_set, List.getElem_map, List.getElem_range, updF]
 by_cases e : v = i
 · simp [e]
 · have e2 : ¬ i = v := fun h => e h.symm
   simp [e, e2]
theorem owns_apart {W : World} {base e size base' e' size' n n' : Nat} {v v' : Value} {xs xs' : List Value} (h : W.ownsRow base e size v n xs) (h' : W.ownsRow base' e' size' v' n' xs') (he : e ≠ e') : v.ownBlock = none \/ v.ownBlock ≠ v'.ownBlock := by
 rcases h.2 with ⟨rfl, _⟩ | ⟨g, cap, cur, rfl, _, hh, _⟩
 · exact .inl rfl
 · right
   intro e
   rcases h'.2 with ⟨rfl, _⟩ | ⟨g', cap', cur', rfl, _, hh', _⟩
   · cases e
   · have : g = g' := Option.some.inj e
     subst this
     rw [hh] at hh'
     simp only [Option.some.injEq, Obj.cells.injEq] at hh'
     exact he hh'.2.1
structure AM (W : World) (base go n : Nat) (val : Nat -> Value) (pcs : Nat -> List P3) : Prop where
 own : W.ownsRow base 42 1 (.slice (some ⟨go, 0, none⟩) n n) n ((List.range n).map val)
 inn : ∀ v, v < n -> W.ownsRow base 51 3 (val v) (pcs v).length (enc3 (pcs v))
 ap : ∀ v v', v < n -> v' < n -> v ≠ v' -> (val v).ownBlock = none \/ (val v).ownBlock ≠ (val v').ownBlock
theorem AM.below {W W' : World} {base go n : Nat} {val : Nat -> Value} {pcs : Nat -> List P3} (A : AM W base go n val pcs) (hb : Below W.heap.size W W') : AM W' base go n val pcs :=
 ⟨ownsRow_below A.own hb, fun v hv => ownsRow_below (A.inn v hv) hb, A.ap⟩
theorem AM.out {W : World} {base go n : Nat} {val : Nat -> Value} {pcs : Nat -> List P3} (A : AM W base go n val pcs) {v : Nat} (hv : v < n) : W.cell? ⟨go, v, none⟩ = some (val v) := by
 rw [World.ownsRow.cellAt A.own v (by omega)]; simp [hv]
theorem AM.far {W : World} {base go n : Nat} {val : Nat -> Value} {pcs : Nat -> List P3} (A : AM W base go n val pcs) {v : Nat} (hv : v < n) : (val v).ownBlock ≠ some go := by
 rcases owns_apart (A.inn v hv) A.own (by decide) with e | e
 · rw [e]; intro h; cases h
 · exact e
theorem lgFind_mem {t : Int} {ls : List Lg} {l : Lg} (h : lgFind t ls = some l) : l ∈ ls /\ l.1 <= t /\ t < l.2.1 := by
 induction ls with
 | nil => cases h
 | cons x ls ih =>
   rw [lgFind] at h
   split at h
   · rename_i hx; cases h; exact ⟨by simp, (hasB_iff _ _ _).1 hx⟩
   · have := ih h; exact ⟨by simp [this.1], this.2⟩
theorem rounds_unique {arcs : List Ac} {p : Ac -> Int} {back : Bool} {first x x' : List Int} {k k' : Nat} (R : RoundsIs arcs p back first x k) (R' : RoundsIs arcs p back first x' k') : x = x' /\ k = k' := by
 have e : k = k' := by
   rcases Nat.lt_trichotomy k k' with h | h | h
   · exact absurd (by have := R.stop; rw [R.is] at this; exact this) (R'.on k h)
   · exact h
   · exact absurd (by have := R'.stop; rw [R'.is] at this; exact this) (R.on k' h)
 subst e
 exact ⟨R.is.trans R'.is.symm, rfl⟩
theorem shot_snap {g : Gr} (R : Right g) (t : Int) : Shot (aliveL t g.lives) (arcsL t g.lives g.edges) := by
 have key : ∀ a ∈ arcsL t g.lives g.edges, (alv (aliveL t g.lives) a.1 = true /\ alv (aliveL t g.lives) a.2.1 = true) /\ 0 <= a.2.2 /\ a.2.2 <= 1000 := by
   intro a ha
   unfold arcsL at ha
   rw [List.mem_flatMap] at ha
   obtain ⟨e, he, ha⟩ := ha
   have hend := R.ends e he
   unfold arcOf at ha
   split at ha
   · simp at ha
   · rename_i l hl
     split at ha
     · rename_i hal
       simp only [List.mem_singleton] at ha
       subst ha
       rw [Bool.and_eq_true] at hal
       have hf := (fitB_iff _ _).1 (R.legs e he l (lgFind_mem hl).1)
       refine ⟨⟨?_, ?_⟩, by show 0 <= l.2.2.2; omega, by show l.2.2.2 <= 1000; omega⟩
       · unfold alv vtx
         rw [aliveL_length]
         have := hal.1
         unfold aliveB at this
         simp only [this, Bool.and_true]
         simp; omega
       · unfold alv vtx
         rw [aliveL_length]
         have := hal.2
         unfold aliveB at this
         simp only [this, Bool.and_true]
         simp; omega
     · simp at ha
 have h1 := R.lvs
 have h2 := R.eds
 have h3 := arcs_len t g.lives g.edges
 exact ⟨by rw [aliveL_length]; omega, by omega, fun a ha => (key a ha).1, fun a ha => (key a ha).2⟩
def PlIs (g : Gr) (p : Nat) (fr : Int) (t : Nat) (x : List Int) (k : Nat) : Prop := RoundsIs (arcsL t g.lives g.edges) (pricZ p) (decide (p = 3)) (firstL (aliveL t g.lives) (begF p fr)) x k
open Classical in
noncomputable def plF (g : Gr) (p : Nat) (fr : Int) (t : Nat) : List Int × Nat := if h : ∃ q : List Int × Nat, PlIs g p fr t q.1 q.2 then Classical.choose h else ([], 0)
theorem plF_eq {g : Gr} {p : Nat} {fr : Int} {t : Nat} {x : List Int} {k : Nat} (h : PlIs g p fr t x k) : plF g p fr t = (x, k) := by
 have hx : ∃ q : List Int × Nat, PlIs g p fr t q.1 q.2 := ⟨(x, k), h⟩
 unfold plF
 rw [dif_pos hx]
 obtain ⟨e1, e2⟩ := rounds_unique (Classical.choose_spec hx) h
 exact Prod.ext e1 e2
def oneP (l : List P3) (t x : Int) : List P3 :=
 if x = 1099511627776 then l
 else
   match l.getLast? with
   | none => l ++ [(t, t + 1, x)]
   | some q => if q.2.1 = t /\ q.2.2 = x then l.dropLast ++ [(q.1, t + 1, x)] else l ++ [(t, t + 1, x)]
noncomputable def allP (g : Gr) (p : Nat) (fr : Int) (v : Nat) : Nat -> List P3
 | 0 => []
 | k + 1 => oneP (allP g p fr v k) k ((plF g p fr k).1.getD v 0)
noncomputable def allR (g : Gr) (p : Nat) (fr : Int) : Nat -> Int
 | 0 => 0
 | k + 1 => max (allR g p fr k) ((plF g p fr k).2 : Int)
theorem oneP_skip {l : List P3} {t x : Int} (h : x = 1099511627776) : oneP l t x = l := by unfold oneP; rw [if_pos h]
theorem oneP_nil {t x : Int} (h : x ≠ 1099511627776) : oneP [] t x = [] ++ [(t, t + 1, x)] := by unfold oneP; rw [if_neg h]; rfl
theorem oneP_more {l : List P3} {f t x : Int} (h : x ≠ 1099511627776) : oneP (l ++ [(f, t, x)]) t x = l ++ [(f, t + 1, x)] := by unfold oneP; rw [if_neg h]; simp
theorem oneP_new {l : List P3} {f t x t' x' : Int} (h : x ≠ 1099511627776) (hn : ¬ (t' = t /\ x' = x)) : oneP (l ++ [(f, t', x')]) t x = l ++ [(f, t', x')] ++ [(t, t + 1, x)] := by unfold oneP; rw [if_neg h]; simp [hn]
theorem oneP_len (l : List P3) (t x : Int) : (oneP l t x).length <= l.length + 1 := by
 unfold oneP
 split
 · omega
 · split
   · simp
   · split <;> simp <;> omega
theorem allP_len (g : Gr) (p : Nat) (fr : Int) (v : Nat) : ∀ k, (allP g p fr v k).length <= k
 | 0 => by simp [allP]
 | k + 1 => by
   have := oneP_len (allP g p fr v k) k ((plF g p fr k).1.getD v 0)
   have h2 := allP_len g p fr v k
   rw [allP]; omega
theorem new_cell0 {W : World} {cs : Array Value} {T : TypeId} {b j : Nat} {x : Value} (hb : b = W.heap.size) (hx : cs[j]? = some x) : (W.alloc (.cells cs T)).cell? ⟨b, j, none⟩ = some x := by subst hb; simp [hx]
def gPair : Gr := ⟨10, [(0, 10), (2, 9)], [(0, 1, [(1, 4, 3, 7)])]⟩
theorem pair_at (w : World) (o : Obj) (T1 T2 T3 : TypeId) : GAt ((((w.alloc o).alloc (.cells #[.int .i64 0, .int .i64 10, .int .i64 2, .int .i64 9] T1)).alloc (.cells #[.int .i64 1, .int .i64 4, .int .i64 3, .int .i64 7] T2)).alloc (.cells #[.int .i64 0, .int .i64 1, .slice (some ⟨w.heap.size + 1 + 1, 0, none⟩) 1 1] T3)) (some ⟨w.heap.size + 1, 0, none⟩) (some ⟨w.heap.size + 1 + 1 + 1, 0, none⟩) gPair := by
 refine ⟨.inr ⟨_, _, rfl, by simp <;> omega, fun j hj => ?_⟩, .inr ⟨_, _, rfl, by simp, fun j hj => ?_⟩, by simp [gPair], by simp [gPair]⟩
 · have hj' : j = 0 \/ j = 1 := by simp [gPair] at hj; omega
   rcases hj' with rfl | rfl
   · exact ⟨by rw [(gal _ _).cell (by simp <;> omega), (gal _ _).cell (by simp <;> omega)]; exact new_cell0 (by simp) rfl, by rw [(gal _ _).cell (by simp <;> omega), (gal _ _).cell (by simp <;> omega)]; exact new_cell0 (by simp) rfl⟩
   · exact ⟨by rw [(gal _ _).cell (by simp <;> omega), (gal _ _).cell (by simp <;> omega)]; exact new_cell0 (by simp) rfl, by rw [(gal _ _).cell (by simp <;> omega), (gal _ _).cell (by simp <;> omega)]; exact new_cell0 (by simp) rfl⟩
 · have hj' : j = 0 := by simp [gPair] at hj; omega
   subst hj'
   refine ⟨new_cell0 (by simp) rfl, new_cell0 (by simp) rfl, some ⟨w.heap.size + 1 + 1, 0, none⟩, 1, new_cell0 (by simp) rfl, .inr ⟨_, _, rfl, by simp <;> omega, fun k hk => ?_⟩, by simp [gPair], by omega⟩
   have hk' : k = 0 := by simp [gPair] at hk; omega
   subst hk'
   exact ⟨by rw [(gal _ _).cell (by simp <;> omega)]; exact new_cell0 (by simp) rfl, by rw [(gal _ _).cell (by simp <;> omega)]; exact new_cell0 (by simp) rfl, by rw [(gal _ _).cell (by simp <;> omega)]; exact new_cell0 (by simp) rfl, by rw [(gal _ _).cell (by simp <;> omega)]; exact new_cell0 (by simp) rfl⟩
set_option maxRecDepth 100000 in
set_option maxHeartbeats 2000000 in
theorem pair_any (w : World) : Calls Seq.prog 18 #[] w fun r w' => ∃ la ea, r = .returned (.agg #[.int .i64 gPair.hor, .slice la gPair.lives.length 2, .slice ea gPair.edges.length 1]) /\ GAt w' la ea gPair /\ Below w.heap.size w w' := by
 go_enter Seq.func18, Tryz.ntmps18
 go_wp2
 have hG := pair_at w (.cells #[.int .i64 10, .slice (some ⟨w.heap.size + 1, 0, none⟩) 2 2, .slice (some ⟨w.heap.size + 1 + 1 + 1, 0, none⟩) 1 1] 25) 88 61 59
 have q : ∀ j x, #[Value.int .i64 10, .slice (some ⟨w.heap.size + 1, 0, none⟩) 2 2, .slice (some ⟨w.heap.size + 1 + 1 + 1, 0, none⟩) 1 1][j]? = some x -> ((((w.alloc (.cells #[.int .i64 10, .slice (some ⟨w.heap.size + 1, 0, none⟩) 2 2, .slice (some ⟨w.heap.size + 1 + 1 + 1, 0, none⟩) 1 1] 25)).alloc (.cells #[.int .i64 0, .int .i64 10, .int .i64 2, .int .i64 9] 88)).alloc (.cells #[.int .i64 1, .int .i64 4, .int .i64 3, .int .i64 7] 61)).alloc (.cells #[.int .i64 0, .int .i64 1, .slice (some ⟨w.heap.size + 1 + 1, 0, none⟩) 1 1] 59)).cell? ⟨w.heap.size, j, none⟩ = some x := by
   intro j x hx
   rw [(gal _ _).cell (by simp <;> omega), (gal _ _).cell (by simp <;> omega), (gal _ _).cell (by simp <;> omega)]
   exact new_cell0 rfl hx
 have q0 := q 0 _ rfl
 have q1 := q 1 _ rfl
 have q2 := q 2 _ rfl
 refine bodyPost_ret (v := .agg #[.int .i64 gPair.hor, .slice (some ⟨w.heap.size + 1, 0, none⟩) gPair.lives.length 2, .slice (some ⟨w.heap.size + 1 + 1 + 1, 0, none⟩) gPair.edges.length 1]) (by simp [results, Tryz.results18, go_sem, q0, q1, q2, gPair]) rfl ⟨_, _, rfl, hG, ptg (ptg (ptg (gal _ _) (gal _ _)) (gal _ _)) (gal _ _)⟩
theorem pair_none (t : Nat) (h : t = 0 \/ t = 1 \/ t = 4 \/ t = 5 \/ t = 6 \/ t = 7 \/ t = 8 \/ t = 9) : plF gPair 2 0 t = ([0, 1099511627776], 0) := by
 refine plF_eq ?_
 unfold PlIs
 rcases h with rfl | rfl | rfl | rfl | rfl | rfl | rfl | rfl
 all_goals exact ⟨by decide, by decide, fun j hj => by omega⟩
theorem pair_seven (t : Nat) (h : t = 2 \/ t = 3) : plF gPair 2 0 t = ([0, 7], 1) := by
 refine plF_eq ?_
 unfold PlIs
 rcases h with rfl | rfl
 all_goals exact ⟨by decide, by decide, by decide⟩
theorem pair_one : allP gPair 2 0 0 10 = [(0, 10, 0)] := by
 simp only [allP, pair_none 0 (by decide), pair_none 1 (by decide), pair_seven 2 (by decide), pair_seven 3 (by decide), pair_none 4 (by decide), pair_none 5 (by decide), pair_none 6 (by decide), pair_none 7 (by decide), pair_none 8 (by decide), pair_none 9 (by decide)]
 decide
theorem pair_two : allP gPair 2 0 1 10 = [(2, 4, 7)] := by
 simp only [allP, pair_none 0 (by decide), pair_none 1 (by decide), pair_seven 2 (by decide), pair_seven 3 (by decide), pair_none 4 (by decide), pair_none 5 (by decide), pair_none 6 (by decide), pair_none 7 (by decide), pair_none 8 (by decide), pair_none 9 (by decide)]
 decide
theorem pair_rounds : allR gPair 2 0 10 = 1 := by
 simp only [allR, pair_none 0 (by decide), pair_none 1 (by decide), pair_seven 2 (by decide), pair_seven 3 (by decide), pair_none 4 (by decide), pair_none 5 (by decide), pair_none 6 (by decide), pair_none 7 (by decide), pair_none 8 (by decide), pair_none 9 (by decide)]
 decide
theorem wrap_nr (n : Int) (h0 : -9223372036854775808 <= n) (h1 : n < 9223372036854775808) : IntKind.i64.wrap n = n := by
 simp only [IntKind.wrap, IntKind.bits, IntKind.signed]
 simp
 omega
structure GBox (w W : World) (B : Nat) (g : Gr) (la ea : Option Addr) (lc ec : Nat) : Prop where
 c0 : W.cell? ⟨B, 0, none⟩ = some (.int .i64 g.hor)
 c1 : W.cell? ⟨B, 1, none⟩ = some (.slice la g.lives.length lc)
 c2 : W.cell? ⟨B, 2, none⟩ = some (.slice ea g.edges.length ec)
 bel : Below w.heap.size w W
 lt : B < W.heap.size
theorem gbox_start (w : World) (g : Gr) (la ea : Option Addr) (lc ec : Nat) (T : TypeId) : GBox w (w.alloc (.cells #[.int .i64 g.hor, .slice la g.lives.length lc, .slice ea g.edges.length ec] T)) w.heap.size g la ea lc ec :=
 ⟨by simp, by simp, by simp, gal w _, by simp⟩
theorem GBox.below {w W W' : World} {B : Nat} {g : Gr} {la ea : Option Addr} {lc ec : Nat} (h : GBox w W B g la ea lc ec) (hb : Below W.heap.size W W') : GBox w W' B g la ea lc ec :=
 ⟨(hb.cell (p := ⟨B, 0, none⟩) h.lt).trans h.c0, (hb.cell (p := ⟨B, 1, none⟩) h.lt).trans h.c1, (hb.cell (p := ⟨B, 2, none⟩) h.lt).trans h.c2, ptg h.bel hb, Nat.lt_of_lt_of_le h.lt hb.size⟩
def askE (g : Gr) (p v : Int) : Int := if gChk g = 0 then if inR p 1 3 = true then if p = 3 then 0 else if inR v 0 ((g.lives.length : Int) - 1) = true then 0 else 4 else 1 else gChk g
theorem AM.base {W : World} {base base' go n : Nat} {val : Nat -> Value} {pcs : Nat -> List P3} (A : AM W base go n val pcs) (h : base' <= base) : AM W base' go n val pcs := ⟨owns_base2 A.own h, fun v hv => owns_base2 (A.inn v hv) h, A.ap⟩
theorem own_slice {W : World} {base e size n : Nat} {v : Value} {xs : List Value} (h : W.ownsRow base e size v n xs) (hn : 0 < n) : ∃ b c, v = .slice (some ⟨b, 0, none⟩) n c := by
 rcases h.2 with ⟨_, h0⟩ | ⟨b, c, cur, e, _⟩
 · omega
 · exact ⟨b, c, e⟩
theorem Tryz.infoPcs : (Seq.prog.info? 42).map (fun i => (i.zero, i.size, i.bytes)) = some (some (.slice none 0 0), 1, 24) := by kernel_rfl
theorem am_start {w0 : World} {base go n : Nat} (h : w0.ownsRow base 42 1 (.slice (some ⟨go, 0, none⟩) n n) n (madeCells (Value.slice none 0 0).cells (n * 1)).toList) : AM w0 base go n (fun _ => .slice none 0 0) (fun _ => []) := by
 have e1 : (madeCells (Value.slice none 0 0).cells (n * 1)).toList = (List.range n).map (fun _ => Value.slice none 0 0) := by
   rw [Nat.mul_one]
   show (madeCells #[Value.slice none 0 0] n).toList = _
   rw [toList_madeCells_one]
   simp [List.map_const']
 rw [e1] at h
 exact ⟨h, fun _ _ => World.ownsRow_nil _ _ _ _, fun _ _ _ _ _ => .inl rfl⟩
theorem Near_three (B : Nat) (x y z : Int) (w : World) (hB : B < w.heap.size) (c0 : w.cell? ⟨B, 0, none⟩ = some (.int .i64 x)) (c1 : w.cell? ⟨B, 1, none⟩ = some (.int .i64 y)) (c2 : w.cell? ⟨B, 2, none⟩ = some (.int .i64 z)) :
   Calls Seq.prog 50 #[.slice (some ⟨B, 0, none⟩) 3 3] w fun e w' => e = .returned (.bool (nrB x && (nrB y && nrB z))) /\ w' = w := by
 have h := Near_any (some ⟨B, 0, none⟩) 3 [x, y, z] w (.inr ⟨B, 0, rfl, hB, fun j hj => by
   match j, hj with
   | 0, _ => exact c0
   | 1, _ => exact c1
   | 2, _ => exact c2⟩) (by simp)
 simpa using h
def nr3 (x y z : Int) : Bool := nrB x && (nrB y && nrB z)
theorem nr3_iff (p : Int × Int × Int) : nr3 p.1 p.2.1 p.2.2 = true ↔ NearP p := by
 unfold nr3 NearP
 rw [Bool.and_eq_true, Bool.and_eq_true, nrB_iff, nrB_iff, nrB_iff]
theorem pnear_any (x y z : Int) (w : World) :
   Calls Seq.prog 33 #[.agg #[.int .i64 x, .int .i64 y, .int .i64 z]] w fun e w' => e = .returned (.bool (nr3 x y z)) /\ Below w.heap.size w w' := by
 go_enter Seq.func33, Tryz.ntmps33
 go_wp2_with fail
 refine (Near_three (w.heap.size + 1) x y z _ (by simp) (by simp) (by simp) (by simp)).mono ?_
 rintro e w1 ⟨rfl, rfl⟩
 go_wp2
 go_ret
 exact ⟨rfl, ptw (pal _ _) (pal _ _)⟩
def inB (a b x : Int) : Bool := decide (a <= x) && decide (x < b)
theorem phas_any (a b v t : Int) (w : World) :
   Calls Seq.prog 32 #[.agg #[.int .i64 a, .int .i64 b, .int .i64 v], .int .i64 t] w fun e w' => e = .returned (.bool (inB a b t)) /\ Below w.heap.size w w' := by
 have HB : Hid (∀ o, Below w.heap.size w (w.alloc o)) := fun o => pal w o
 by_cases g1 : a <= t
 · by_cases g2 : t < b
   · have HC : Hid (inB a b t = true) := by show _ = _; unfold inB; simp [g1, g2]
     go_enter Seq.func32, Tryz.ntmps32
     go_wp2
     go_ret
     exact ⟨ret_bool HC.out.symm, HB.out _⟩
   · have HC : Hid (inB a b t = false) := by show _ = _; unfold inB; simp [g2]
     go_enter Seq.func32, Tryz.ntmps32
     go_wp2
     go_ret
     exact ⟨ret_bool HC.out.symm, HB.out _⟩
 · have HC : Hid (inB a b t = false) := by show _ = _; unfold inB; simp [g1]
   go_enter Seq.func32, Tryz.ntmps32
   go_wp2
   go_ret
   exact ⟨ret_bool HC.out.symm, HB.out _⟩
def flB (b v a' v' : Int) : Bool := decide (b < a') || (b == a' && v != v')
theorem follows_any (a b v a' b' v' : Int) (w : World) :
   Calls Seq.prog 34 #[.agg #[.int .i64 a, .int .i64 b, .int .i64 v], .agg #[.int .i64 a', .int .i64 b', .int .i64 v']] w fun e w' => e = .returned (.bool (flB b v a' v')) /\ Below w.heap.size w w' := by
 have HB : Hid (∀ o o', Below w.heap.size w ((w.alloc o).alloc o')) := fun o o' => ptw (pal w o) (pal _ o')
 by_cases g1 : b < a'
 · have HC : Hid (flB b v a' v' = true) := by show _ = _; unfold flB; simp [g1]
   go_enter Seq.func34, Tryz.ntmps34
   go_wp2
   go_ret
   exact ⟨ret_bool HC.out.symm, HB.out _ _⟩
 · by_cases g2 : b = a'
   · by_cases g3 : v = v'
     · have HC : Hid (flB b v a' v' = false) := by show _ = _; unfold flB; simp [g2, g3]
       subst g2
       subst g3
       go_enter Seq.func34, Tryz.ntmps34
       go_wp2
       go_ret
       exact ⟨ret_bool (by first | (rw [HC.out]; simp; done) | rw [HC.out]), HB.out _ _⟩
     · have HC : Hid (flB b v a' v' = true) := by show _ = _; unfold flB; simp [g2, g3]
       have e3 : (v != v') = true := by simp [g3]
       subst g2
       go_enter Seq.func34, Tryz.ntmps34
       go_wp2
       go_ret
       exact ⟨ret_bool (by first | (rw [HC.out]; simp [e3]; done) | rw [HC.out]), HB.out _ _⟩
   · have HC : Hid (flB b v a' v' = false) := by show _ = _; unfold flB; simp [g1, g2]
     have e2 : (b == a') = false := by simp [g2]
     go_enter Seq.func34, Tryz.ntmps34
     go_wp2
     go_ret
     exact ⟨ret_bool (by rw [HC.out]), HB.out _ _⟩
theorem getD3 {m : List (Int × Int × Int)} {k : Nat} (h : k < m.length) : m.getD k (0, 0, 0) = m[k] := by simp [List.getD_eq_getElem?_getD, List.getElem?_eq_getElem h]
theorem PcAt.get {w : World} {b off : Nat} {m : List (Int × Int × Int)} {k : Nat} (hk : k < m.length) (hc : ∀ j, j < m.length -> w.cell? ⟨b, off + j * 3, none⟩ = some (.int .i64 (m.getD j (0, 0, 0)).1) /\ w.cell? ⟨b, off + j * 3 + 1, none⟩ = some (.int .i64 (m.getD j (0, 0, 0)).2.1) /\ w.cell? ⟨b, off + j * 3 + 2, none⟩ = some (.int .i64 (m.getD j (0, 0, 0)).2.2)) :
   w.cell? ⟨b, off + k * 3, none⟩ = some (.int .i64 m[k].1) /\ w.cell? ⟨b, off + k * 3 + 1, none⟩ = some (.int .i64 m[k].2.1) /\ w.cell? ⟨b, off + k * 3 + 2, none⟩ = some (.int .i64 m[k].2.2) := by
 have := hc k hk
 rwa [getD3 hk] at this
set_option maxHeartbeats 1000000 in
theorem PAt_any (ao : Option Addr) (cap : Nat) (m : List (Int × Int × Int)) (t : Int) (w : World) (hl : PcAt w ao m) (hn : m.length <= 9223372036854775807) :
   Calls Seq.prog 12 #[.slice ao m.length cap, .int .i64 t] w fun e w' => e = .returned (.tuple #[.int .i64 ((tel m t).getD 0), .bool (tel m t).isSome]) /\ Below w.heap.size w w' := by
 go_enter Seq.func12, Tryz.ntmps12
 go_wp2
 go_loopw [10] (fun i wr => ∃ k : Nat, k <= m.length /\ i = .int .i64 k /\ tel (m.take k) t = none /\ Below w.heap.size w wr) (fun i _ => m.length - (intOf i).toNat)
 case atStart => exact ⟨0, Nat.zero_le _, rfl, rfl, Below.refl _ _⟩
 case round =>
   obtain ⟨k, hk, rfl, hh, hb⟩ := hrel
   have HH : Hid (tel (m.take k) t = none) := hh
   clear hh
   by_cases hlt : k < m.length
   · rcases hl.below hb with h0 | ⟨b, off, rfl, hbw, hc⟩
     · subst h0; simp at hlt
     obtain ⟨c0, c1, c2⟩ := PcAt.get hlt hc
     have HB : Hid (Below w.heap.size w wr) := hb
     clear hc hl hb
     go_wp2_with fail
     refine (phas_any m[k].1 m[k].2.1 m[k].2.2 t _).mono ?_
     rintro e w1 ⟨rfl, hb1⟩
     have hb' : Below w.heap.size w w1 := ptw (ptw HB.out (pal _ _)) hb1
     have d2 := hb1.cell (p := ⟨wr.heap.size, 2, none⟩) (by simp)
     have d2 : w1.cell? ⟨wr.heap.size, 2, none⟩ = some (.int .i64 m[k].2.2) := d2.trans (by simp)
     clear hb1 c0 c1 c2
     cases hp : inP m[k] t with
     | true =>
       have e1 : inB m[k].1 m[k].2.1 t = true := hp
       have HC : Hid (tel m t = some m[k].2.2) := tel_take_yes hlt HH.out hp
       rw [e1]
       clear hp e1
       go_wp2
       go_ret2
       exact ⟨by rw [HC.out]; rfl, hb'⟩
     | false =>
       have e1 : inB m[k].1 m[k].2.1 t = false := hp
       have HC : Hid (tel (m.take (k + 1)) t = none) := tel_take_no hlt HH.out hp
       rw [e1]
       clear hp e1
       go_wp2
       go_roundw
       case rel => exact ⟨k + 1, by omega, by go_num, HC.out, hb'⟩
       case measure => simp [intOf]; omega
   · have hkl : k = m.length := by omega
     subst hkl
     have HC : Hid (tel m t = none) := by have := HH.out; rwa [List.take_length] at this
     go_wp2
     go_ret2
     exact ⟨by rw [HC.out]; rfl, hb⟩
structure Kp (w wr w1 : World) (b o : Nat) (p q : Int × Int × Int) : Prop where
 k0 : w1.cell? ⟨wr.heap.size, 0, none⟩ = some (.int .i64 p.1)
 k1 : w1.cell? ⟨wr.heap.size, 1, none⟩ = some (.int .i64 p.2.1)
 k2 : w1.cell? ⟨wr.heap.size, 2, none⟩ = some (.int .i64 p.2.2)
 q0 : w1.cell? ⟨b, o, none⟩ = some (.int .i64 q.1)
 q1 : w1.cell? ⟨b, o + 1, none⟩ = some (.int .i64 q.2.1)
 q2 : w1.cell? ⟨b, o + 2, none⟩ = some (.int .i64 q.2.2)
 bel : Below w.heap.size w w1
 sz : wr.heap.size + 1 <= w1.heap.size
 lt : b < wr.heap.size
theorem kp_start {w wr w1 : World} {b o : Nat} {p q : Int × Int × Int} {T : Nat} (hb : Below w.heap.size w wr) (hbw : b < wr.heap.size) (c0 : wr.cell? ⟨b, o, none⟩ = some (.int .i64 q.1)) (c1 : wr.cell? ⟨b, o + 1, none⟩ = some (.int .i64 q.2.1)) (c2 : wr.cell? ⟨b, o + 2, none⟩ = some (.int .i64 q.2.2))
   (h : Below (wr.alloc (.cells #[.int .i64 p.1, .int .i64 p.2.1, .int .i64 p.2.2] T)).heap.size (wr.alloc (.cells #[.int .i64 p.1, .int .i64 p.2.1, .int .i64 p.2.2] T)) w1) : Kp w wr w1 b o p q := by
 have hA : Below wr.heap.size wr w1 := ptw (pal _ _) h
 refine ⟨(h.cell (p := ⟨wr.heap.size, 0, none⟩) (by simp)).trans (by simp), (h.cell (p := ⟨wr.heap.size, 1, none⟩) (by simp)).trans (by simp), (h.cell (p := ⟨wr.heap.size, 2, none⟩) (by simp)).trans (by simp), ?_, ?_, ?_, ptw hb hA, by have := h.size; simpa using this, hbw⟩
 · rw [hA.cell (p := ⟨b, o, none⟩) hbw]; exact c0
 · rw [hA.cell (p := ⟨b, o + 1, none⟩) hbw]; exact c1
 · rw [hA.cell (p := ⟨b, o + 2, none⟩) hbw]; exact c2
def ext (out : List (Int × Int × Int)) (p : Int × Int × Int) : List (Int × Int × Int) :=
 match out.getLast? with
 | none => out ++ [p]
 | some q => if folB q p then out ++ [p] else out.dropLast ++ [(q.1, p.2.1, q.2.2)]
theorem ext_nil (p : Int × Int × Int) : ext [] p = [] ++ [p] := rfl
theorem ext_yes {o : List (Int × Int × Int)} {q p : Int × Int × Int} (h : folB q p = true) : ext (o ++ [q]) p = o ++ [q] ++ [p] := by unfold ext; simp [h]
theorem ext_no {o : List (Int × Int × Int)} {q p : Int × Int × Int} (h : folB q p = false) : ext (o ++ [q]) p = o ++ [(q.1, p.2.1, q.2.2)] := by unfold ext; simp [h]
set_option maxRecDepth 100000 in
set_option maxHeartbeats 4000000 in
theorem extend_any (base : Nat) (v : Value) (out : List (Int × Int × Int)) (p : Int × Int × Int) (w : World) (hown : w.ownsRow base 51 3 v out.length (enc3 out)) (hbase : base <= w.heap.size) (hlen : out.length <= 1000) :
   Calls Seq.prog 101 #[v, .agg #[.int .i64 p.1, .int .i64 p.2.1, .int .i64 p.2.2]] w fun e w' => ∃ v', e = .returned v' /\ w'.ownsRow base 51 3 v' (ext out p).length (enc3 (ext out p)) /\ Below base w w' := by
 obtain ⟨i0, hi, hz0, hz1, hz2⟩ := info_parts Tryz.infoPiece
 obtain ⟨vo, vc, hve, _⟩ := pcAt_of_owns hown
 rcases List.eq_nil_or_concat out with h0 | ⟨o, q, h0⟩
 · subst h0
   subst hve
   rw [ext_nil]
   simp only [List.length_nil] at hown
   go_enter Seq.func101, Tryz.ntmps101
   go_wp2
   go_quiet (fail)
   go_wp2_with (at_builtin; refine wpList_append_own _ rfl _ _ 42 rfl base 51 i0 (.agg #[.int .i64 0, .int .i64 0, .int .i64 0]) 3 24 ((Seq.pu 42).trans Tryz.underlying42) hi hz0 hz1 hz2 rfl (by decide) _ _ _ rfl (World.ownsRow.alloc (World.ownsRow.alloc (w := w) hown _) _) ⟨w.heap.size + 1, 0, none⟩ 1 1 [.int .i64 p.1, .int .i64 p.2.1, .int .i64 p.2.2] rfl rfl ?c1 ?c2 ?c3 ?c4 ?c5 ?_)
   case c1 => exact cells_three_new _ _ _ _ _ _ (by simp)
   case c2 => intro u hu; simp at hu; rcases hu with rfl | rfl | rfl <;> rfl
   case c3 => unfold maxLen; omega
   case c4 => omega
   case c5 => simp; omega
   intro v' w1 hown' hgrow _
   have R : w1.ownsRow base 51 3 v' ([] ++ [p]).length (enc3 ([] ++ [p])) := by
     rw [enc3_append, List.length_append]; exact hown'
   have hb' : Below base w w1 := ((below_drewN ((Below.refl base w).alloc hbase _) _).alloc (by simp; omega) _).grown hgrow (by simp; omega) (fun j hj => (hown.lt j hj).1)
   clear hown hown' hgrow
   go_wp2
   go_ret
   exact ⟨_, rfl, R, hb'⟩
 · rw [List.concat_eq_append] at h0
   have hom : out.length = o.length + 1 := by rw [h0]; simp
   have HO : Hid (out = o ++ [q]) := h0
   have fp := flat3_getD out o.length (by omega)
   have hgp : out.getD o.length (0, 0, 0) = q := by rw [h0]; simp
   rw [hgp] at fp
   rcases hown.2 with ⟨_, h9⟩ | ⟨g, vc', cur, e9, hbs, hh, h1, h2, h4, h5⟩
   · omega
   have hown' := hown
   rw [e9, hom] at hown'
   have hgl := hown'.lt g rfl
   have cq0 : w.cell? ⟨g, o.length * 3, none⟩ = some (.int .i64 q.1) := by rw [hown'.cellAt (o.length * 3) (by omega)]; simp [enc3, fp.1]
   have cq1 : w.cell? ⟨g, o.length * 3 + 1, none⟩ = some (.int .i64 q.2.1) := by rw [hown'.cellAt (o.length * 3 + 1) (by omega)]; simp [enc3, fp.2.1]
   have cq2 : w.cell? ⟨g, o.length * 3 + 2, none⟩ = some (.int .i64 q.2.2) := by rw [hown'.cellAt (o.length * 3 + 2) (by omega)]; simp [enc3, fp.2.2]
   have HOM : Hid (out.length = o.length + 1) := hom
   rw [e9, hom]
   rw [hom] at hlen
   have HOW : Hid (w.ownsRow base 51 3 (.slice (some ⟨g, 0, none⟩) (o.length + 1) vc') (o.length + 1) (enc3 out)) := hown'
   have hfz := fun W (h : Below w.heap.size w W) => (ownsRow_below hown' h).frozenAt (o.length * 3 + 1)
   have HFZ : Hid (∀ W, Below w.heap.size w W -> W.frozen? ⟨g, o.length * 3 + 1, none⟩ = false) := hfz
   clear e9 h0 hgp fp hh h4 h5 hom hown hown' hve hfz h1 h2
   generalize hm : o.length = m at *
   have HM : Hid (o.length = m) := hm
   clear hm
   have hm1 : (0 : Int) <= (m : Int) := by omega
   have hm2 : (m : Int) < (m : Int) + 1 := by omega
   have HK : Hid (∀ w1, Below (w.alloc (.cells #[.int .i64 p.1, .int .i64 p.2.1, .int .i64 p.2.2] 51)).heap.size (w.alloc (.cells #[.int .i64 p.1, .int .i64 p.2.1, .int .i64 p.2.2] 51)) w1 -> Kp w w w1 g (m * 3) p q) := fun w1 h => kp_start (Below.refl _ _) hgl.2 cq0 cq1 cq2 h
   have HFol : Hid (∀ W, Calls Seq.prog 34 #[.agg #[.int .i64 q.1, .int .i64 q.2.1, .int .i64 q.2.2], .agg #[.int .i64 p.1, .int .i64 p.2.1, .int .i64 p.2.2]] W fun e w' => e = .returned (.bool (folB q p)) /\ Below W.heap.size W w') := fun W => follows_any q.1 q.2.1 q.2.2 p.1 p.2.1 p.2.2 W
   cases hf : folB q p with
   | true =>
     have HE : Hid (ext out p = out ++ [p]) := by show _ = _; rw [HO.out, ext_yes hf]
     rw [hf] at HFol
     clear hf
     go_enter Seq.func101, Tryz.ntmps101
     go_wp2_with fail
     generalize w.alloc (.cells #[.int .i64 p.1, .int .i64 p.2.1, .int .i64 p.2.2] 51) = W0 at HK ⊢
     have f0 : ∀ s : HeldIn W0, s.w.cell? ⟨w.heap.size, 0, none⟩ = some (.int .i64 p.1) := fun s => (HK.out _ s.h).k0
     have f1 : ∀ s : HeldIn W0, s.w.cell? ⟨w.heap.size, 1, none⟩ = some (.int .i64 p.2.1) := fun s => (HK.out _ s.h).k1
     have f2 : ∀ s : HeldIn W0, s.w.cell? ⟨w.heap.size, 2, none⟩ = some (.int .i64 p.2.2) := fun s => (HK.out _ s.h).k2
     have q0 : ∀ s : HeldIn W0, s.w.cell? ⟨g, m * 3, none⟩ = some (.int .i64 q.1) := fun s => (HK.out _ s.h).q0
     have q1 : ∀ s : HeldIn W0, s.w.cell? ⟨g, m * 3 + 1, none⟩ = some (.int .i64 q.2.1) := fun s => (HK.out _ s.h).q1
     have q2 : ∀ s : HeldIn W0, s.w.cell? ⟨g, m * 3 + 2, none⟩ = some (.int .i64 q.2.2) := fun s => (HK.out _ s.h).q2
     have hne : Nonempty (HeldIn W0) := ⟨⟨W0, Below.refl _ _⟩⟩
     refine wp_region_held W0 (Below.refl _ _) (by kernel_rfl) (by kernel_rfl) ?_
     repeat (go_big_quiet_step ((go_at_call 34; exact held_of (HFol.out _))))
     refine wpQuiet_nil ?_
     rintro _ ⟨s, rfl⟩
     have KK := HK.out _ s.h
     have hbs := KK.bel
     have k0 := KK.k0
     have k1 := KK.k1
     have k2 := KK.k2
     generalize s.w = w1 at hbs k0 k1 k2 ⊢
     have hows := ownsRow_below HOW.out hbs
     have hsz := hbs.size
     clear f0 f1 f2 q0 q1 q2 KK hne cq0 cq1 cq2 HK HFol HFZ
     go_wp2_with (at_builtin; refine wpList_append_own _ rfl _ _ 42 rfl base 51 i0 (.agg #[.int .i64 0, .int .i64 0, .int .i64 0]) 3 24 ((Seq.pu 42).trans Tryz.underlying42) hi hz0 hz1 hz2 rfl (by decide) _ _ _ rfl (World.ownsRow.alloc (w := w1) hows _) ⟨w1.heap.size, 0, none⟩ 1 1 [.int .i64 p.1, .int .i64 p.2.1, .int .i64 p.2.2] rfl rfl ?c1 ?c2 ?c3 ?c4 ?c5 ?_)
     case c1 => exact cells_three_new _ _ _ _ _ _ (by simp)
     case c2 => intro u hu; simp at hu; rcases hu with rfl | rfl | rfl <;> rfl
     case c3 => unfold maxLen; omega
     case c4 => omega
     case c5 => simp; omega
     intro v' w2 hown2 hgrow _
     have R : w2.ownsRow base 51 3 v' (ext out p).length (enc3 (ext out p)) := by
       rw [HE.out, enc3_append, List.length_append, HOM.out]; exact hown2
     have hb' : Below base w w2 := ((hbs.mono hbase).alloc (by omega) _).grown hgrow (by simp; omega) (fun j hj => (hows.lt j hj).1)
     clear hows hown2 hgrow
     go_wp2
     go_ret
     exact ⟨_, rfl, R, hb'⟩
   | false =>
     have HE : Hid (ext out p = o ++ [(q.1, p.2.1, q.2.2)]) := by show _ = _; rw [HO.out, ext_no hf]
     rw [hf] at HFol
     clear hf
     go_enter Seq.func101, Tryz.ntmps101
     go_wp2_with fail
     generalize w.alloc (.cells #[.int .i64 p.1, .int .i64 p.2.1, .int .i64 p.2.2] 51) = W0 at HK ⊢
     have f0 : ∀ s : HeldIn W0, s.w.cell? ⟨w.heap.size, 0, none⟩ = some (.int .i64 p.1) := fun s => (HK.out _ s.h).k0
     have f1 : ∀ s : HeldIn W0, s.w.cell? ⟨w.heap.size, 1, none⟩ = some (.int .i64 p.2.1) := fun s => (HK.out _ s.h).k1
     have f2 : ∀ s : HeldIn W0, s.w.cell? ⟨w.heap.size, 2, none⟩ = some (.int .i64 p.2.2) := fun s => (HK.out _ s.h).k2
     have q0 : ∀ s : HeldIn W0, s.w.cell? ⟨g, m * 3, none⟩ = some (.int .i64 q.1) := fun s => (HK.out _ s.h).q0
     have q1 : ∀ s : HeldIn W0, s.w.cell? ⟨g, m * 3 + 1, none⟩ = some (.int .i64 q.2.1) := fun s => (HK.out _ s.h).q1
     have q2 : ∀ s : HeldIn W0, s.w.cell? ⟨g, m * 3 + 2, none⟩ = some (.int .i64 q.2.2) := fun s => (HK.out _ s.h).q2
     have hne : Nonempty (HeldIn W0) := ⟨⟨W0, Below.refl _ _⟩⟩
     refine wp_region_held W0 (Below.refl _ _) (by kernel_rfl) (by kernel_rfl) ?_
     repeat (go_big_quiet_step ((go_at_call 34; exact held_of (HFol.out _))))
     refine wpQuiet_nil ?_
     rintro _ ⟨s, rfl⟩
     have KK := HK.out _ s.h
     have hbs := KK.bel
     have k1 := KK.k1
     have c1 := KK.q1
     generalize s.w = w1 at hbs k1 c1 ⊢
     have hows := ownsRow_below HOW.out hbs
     have fz := HFZ.out w1 hbs
     have hsz := hbs.size
     have HR : Hid ((w1.setCell ⟨g, m * 3 + 1, none⟩ (.int .i64 p.2.1)).ownsRow base 51 3 (.slice (some ⟨g, 0, none⟩) (m + 1) vc') (ext out p).length (enc3 (ext out p)) /\ Below base w (w1.setCell ⟨g, m * 3 + 1, none⟩ (.int .i64 p.2.1))) := by
       have hst := (hows.stored (m * 3 + 1) (.int .i64 p.2.1)).1
       have he : (enc3 out).set (m * 3 + 1) (.int .i64 p.2.1) = enc3 (o ++ [(q.1, p.2.1, q.2.2)]) := by
         rw [HO.out, enc3_append, enc3_append, List.set_append_right _ _ (by rw [enc3_length, HM.out]; omega), enc3_length, HM.out, show m * 3 + 1 - m * 3 = 1 by omega]
         rfl
       rw [he] at hst
       have hlen' : (o ++ [(q.1, p.2.1, q.2.2)]).length = m + 1 := by simp [HM.out]
       rw [HE.out, hlen']
       exact ⟨hst, (hbs.mono hbase).setCell hgl.1 _⟩
     clear f0 f1 f2 q0 q1 q2 KK hne cq0 cq1 cq2 HK HFol hows
     go_wp2
     go_ret
     exact ⟨_, rfl, HR.out.1, HR.out.2⟩
def FitIs (out : List (Int × Int × Int)) (n : Int) (r : List (Int × Int × Int)) : Prop :=
 (¬ (∀ q ∈ out, NearP q) /\ n = 5 /\ r = []) \/ ((∀ q ∈ out, NearP q) /\ 200 < out.length /\ n = 2 /\ r = []) \/ ((∀ q ∈ out, NearP q) /\ out.length <= 200 /\ n = 0 /\ r = out)
theorem near_take_succ {m : List (Int × Int × Int)} {k : Nat} (hk : k < m.length) (h : ∀ q ∈ m.take k, NearP q) (h1 : NearP m[k]) : ∀ q ∈ m.take (k + 1), NearP q := by
 intro q hq
 rw [take_succ_get m k hk, List.mem_append, List.mem_singleton] at hq
 rcases hq with hq | rfl
 · exact h q hq
 · exact h1
set_option maxRecDepth 100000 in
set_option maxHeartbeats 2000000 in
theorem fit_any (base : Nat) (v : Value) (out : List (Int × Int × Int)) (w : World) (hown : w.ownsRow base 51 3 v out.length (enc3 out)) (hlen : out.length <= 1000) :
   Calls Seq.prog 102 #[v] w fun e w' => ∃ n r v', FitIs out n r /\ e = .returned (.tuple #[v', .int .i64 n]) /\ w'.ownsRow base 51 3 v' r.length (enc3 r) /\ Below w.heap.size w w' := by
 obtain ⟨vo, vc, hve, hl⟩ := pcAt_of_owns hown
 subst hve
 have HOW : Hid (w.ownsRow base 51 3 (.slice vo out.length vc) out.length (enc3 out)) := hown
 have HNil : Hid (∀ W : World, W.ownsRow base 51 3 (.slice none 0 0) ([] : List (Int × Int × Int)).length (enc3 [])) := fun W => World.ownsRow_nil _ _ _ _
 clear hown
 go_enter Seq.func102, Tryz.ntmps102
 go_wp2
 go_loopw [8] (fun i wr => ∃ k : Nat, k <= out.length /\ i = .int .i64 k /\ (∀ q ∈ out.take k, NearP q) /\ Below w.heap.size w wr) (fun i _ => out.length - (intOf i).toNat)
 case atStart => exact ⟨0, Nat.zero_le _, rfl, fun q hq => by simp at hq, Below.refl _ _⟩
 case round =>
   obtain ⟨k, hk, rfl, hn, hb⟩ := hrel
   have HN : Hid (∀ q ∈ out.take k, NearP q) := hn
   clear hn
   by_cases hlt : k < out.length
   · rcases hl.below hb with h0 | ⟨b, off, rfl, hbw, hc⟩
     · subst h0; simp at hlt
     obtain ⟨c0, c1, c2⟩ := PcAt.get hlt hc
     have hnr := fun W => pnear_any out[k].1 out[k].2.1 out[k].2.2 W
     have HB : Hid (∀ o w1, Below (wr.alloc o).heap.size (wr.alloc o) w1 -> Below w.heap.size w w1) := fun o w1 h => ptw (ptw hb (pal _ _)) h
     clear hc hl hb
     by_cases n1 : NearP out[k]
     · have HS : Hid (∀ q ∈ out.take (k + 1), NearP q) := near_take_succ hlt HN.out n1
       rw [(nr3_iff _).2 n1] at hnr
       clear n1
       go_wp2_with fail
       refine (hnr _).mono ?_
       rintro e w1 ⟨rfl, hb1⟩
       have hb' := HB.out _ _ hb1
       clear hb1
       go_wp2
       go_roundw
       case rel => exact ⟨k + 1, by omega, by go_num, HS.out, hb'⟩
       case measure => simp [intOf]; omega
     · have HC : Hid (FitIs out 5 []) := .inl ⟨fun h => n1 (h _ (List.getElem_mem hlt)), rfl, rfl⟩
       rw [show nr3 out[k].1 out[k].2.1 out[k].2.2 = false from by rw [<- Bool.not_eq_true, nr3_iff]; exact n1] at hnr
       clear n1
       go_wp2_with fail
       refine (hnr _).mono ?_
       rintro e w1 ⟨rfl, hb1⟩
       have hb' := HB.out _ _ hb1
       clear hb1
       go_wp2
       go_ret2
       exact ⟨_, _, _, HC.out, rfl, HNil.out _, hb'⟩
   · have hkl : k = out.length := by omega
     have hall : ∀ q ∈ out, NearP q := by have := HN.out; rwa [hkl, List.take_length] at this
     have HA : Hid (∀ q ∈ out, NearP q) := hall
     clear hall
     subst hkl
     by_cases h200 : 200 < out.length
     · have HC : Hid (FitIs out 2 []) := .inr (.inl ⟨HA.out, h200, rfl, rfl⟩)
       go_wp2
       go_ret2
       exact ⟨_, _, _, HC.out, rfl, HNil.out _, hb⟩
     · have HC : Hid (FitIs out 0 out) := .inr (.inr ⟨HA.out, by omega, rfl, rfl⟩)
       have HR : Hid (wr.ownsRow base 51 3 (.slice vo out.length vc) out.length (enc3 out)) := ownsRow_below HOW.out hb
       go_wp2
       go_ret2
       exact ⟨_, _, _, HC.out, rfl, HR.out, hb⟩
end Go.Proofs.YthgelfnflafoiaeGreat.Q
namespace Go.Proofs.YthgelfnflafoiaeGreat
open Sim (Seq.prog)
open Go.Shelf
def Seq.sortInt_ren : Go.Shelf.Ren := ⟨fun | 189 => 106 | 125 => 111 | 257 => 110 | 128 => 122 | 129 => 123 | 294 => 113 | 295 => 114 | 296 => 115 | 297 => 116 | 298 => 117 | 299 => 118 | 216 => 119 | 300 => 120 | 301 => 121 | 328 => 124 | 329 => 125 | 330 => 126 | 331 => 127 | 332 => 128 | 215 => 129 | 343 => 130 | n => n, fun | 28 => 38 | 3 => 3 | 46 => 126 | 0 => 0 | 51 => 103 | 53 => 100 | 4 => 4 | 183 => 167 | 182 => 166 | 131 => 43 | 5 => 5 | 9 => 9 | 218 => 175 | 222 => 178 | 228 => 180 | 229 => 181 | n => n, fun | n => n⟩
theorem Seq.sortInt : Go.Proofs.Lays.n189 Seq.prog Seq.sortInt_ren := {
  mixed := by kernel_rfl
  f125 := Seq.func111.trans (congrArg some (by kernel_rfl))
  f128 := Seq.func122.trans (congrArg some (by kernel_rfl))
  f129 := Seq.func123.trans (congrArg some (by kernel_rfl))
  f189 := Seq.func106.trans (congrArg some (by kernel_rfl))
  f215 := Seq.func129.trans (congrArg some (by kernel_rfl))
  f216 := Seq.func119.trans (congrArg some (by kernel_rfl))
  f257 := Seq.func110.trans (congrArg some (by kernel_rfl))
  f294 := Seq.func113.trans (congrArg some (by kernel_rfl))
  f295 := Seq.func114.trans (congrArg some (by kernel_rfl))
  f296 := Seq.func115.trans (congrArg some (by kernel_rfl))
  f297 := Seq.func116.trans (congrArg some (by kernel_rfl))
  f298 := Seq.func117.trans (congrArg some (by kernel_rfl))
  f299 := Seq.func118.trans (congrArg some (by kernel_rfl))
  f300 := Seq.func120.trans (congrArg some (by kernel_rfl))
  f301 := Seq.func121.trans (congrArg some (by kernel_rfl))
  f328 := Seq.func124.trans (congrArg some (by kernel_rfl))
  f329 := Seq.func125.trans (congrArg some (by kernel_rfl))
  f330 := Seq.func126.trans (congrArg some (by kernel_rfl))
  f331 := Seq.func127.trans (congrArg some (by kernel_rfl))
  f332 := Seq.func128.trans (congrArg some (by kernel_rfl))
  f343 := Seq.func130.trans (congrArg some (by kernel_rfl))
  t0 := ((Seq.pu 0).trans Tryz.underlying0)
  a0 := (fun w => (Seq.ag 0 w).trans (Tryz.isAgg0 w))
  z0 := (fun w => (Seq.so 0 w).trans (Tryz.sizeOf0 w))
  v0 := (fun w => (Seq.zv 0 w).trans (Tryz.zeroValue0 w))
  t3 := ((Seq.pu 3).trans Tryz.underlying3)
  a3 := (fun w => (Seq.ag 3 w).trans (Tryz.isAgg3 w))
  z3 := (fun w => (Seq.so 3 w).trans (Tryz.sizeOf3 w))
  v3 := (fun w => (Seq.zv 3 w).trans (Tryz.zeroValue3 w))
  t4 := ((Seq.pu 4).trans Tryz.underlying4)
  a4 := (fun w => (Seq.ag 4 w).trans (Tryz.isAgg4 w))
  z4 := (fun w => (Seq.so 4 w).trans (Tryz.sizeOf4 w))
  v4 := (fun w => (Seq.zv 4 w).trans (Tryz.zeroValue4 w))
  t5 := ((Seq.pu 5).trans Tryz.underlying5)
  a5 := (fun w => (Seq.ag 5 w).trans (Tryz.isAgg5 w))
  z5 := (fun w => (Seq.so 5 w).trans (Tryz.sizeOf5 w))
  v5 := (fun w => (Seq.zv 5 w).trans (Tryz.zeroValue5 w))
  t9 := ((Seq.pu 9).trans Tryz.underlying9)
  a9 := (fun w => (Seq.ag 9 w).trans (Tryz.isAgg9 w))
  z9 := (fun w => (Seq.so 9 w).trans (Tryz.sizeOf9 w))
  v9 := (fun w => (Seq.zv 9 w).trans (Tryz.zeroValue9 w))
  t28 := ((Seq.pu 38).trans Tryz.underlying38)
  a28 := (fun w => (Seq.ag 38 w).trans (Tryz.isAgg38 w))
  z28 := (fun w => (Seq.so 38 w).trans (Tryz.sizeOf38 w))
  v28 := (fun w => (Seq.zv 38 w).trans (Tryz.zeroValue38 w))
  t46 := ((Seq.pu 126).trans Tryz.underlying126)
  a46 := (fun w => (Seq.ag 126 w).trans (Tryz.isAgg126 w))
  z46 := (fun w => (Seq.so 126 w).trans (Tryz.sizeOf126 w))
  v46 := (fun w => (Seq.zv 126 w).trans (Tryz.zeroValue126 w))
  t51 := ((Seq.pu 103).trans Tryz.underlying103)
  a51 := (fun w => (Seq.ag 103 w).trans (Tryz.isAgg103 w))
  z51 := (fun w => (Seq.so 103 w).trans (Tryz.sizeOf103 w))
  v51 := (fun w => (Seq.zv 103 w).trans (Tryz.zeroValue103 w))
  t53 := ((Seq.pu 100).trans Tryz.underlying100)
  a53 := (fun w => (Seq.ag 100 w).trans (Tryz.isAgg100 w))
  z53 := (fun w => (Seq.so 100 w).trans (Tryz.sizeOf100 w))
  v53 := (fun w => (Seq.zv 100 w).trans (Tryz.zeroValue100 w))
  t131 := ((Seq.pu 43).trans Tryz.underlying43)
  a131 := (fun w => (Seq.ag 43 w).trans (Tryz.isAgg43 w))
  z131 := (fun w => (Seq.so 43 w).trans (Tryz.sizeOf43 w))
  v131 := (fun w => (Seq.zv 43 w).trans (Tryz.zeroValue43 w))
  t182 := ((Seq.pu 166).trans Tryz.underlying166)
  a182 := (fun w => (Seq.ag 166 w).trans (Tryz.isAgg166 w))
  z182 := (fun w => (Seq.so 166 w).trans (Tryz.sizeOf166 w))
  v182 := (fun w => (Seq.zv 166 w).trans (Tryz.zeroValue166 w))
  t183 := ((Seq.pu 167).trans Tryz.underlying167)
  a183 := (fun w => (Seq.ag 167 w).trans (Tryz.isAgg167 w))
  z183 := (fun w => (Seq.so 167 w).trans (Tryz.sizeOf167 w))
  v183 := (fun w => (Seq.zv 167 w).trans (Tryz.zeroValue167 w))
  t218 := ((Seq.pu 175).trans Tryz.underlying175)
  a218 := (fun w => (Seq.ag 175 w).trans (Tryz.isAgg175 w))
  z218 := (fun w => (Seq.so 175 w).trans (Tryz.sizeOf175 w))
  v218 := (fun w => (Seq.zv 175 w).trans (Tryz.zeroValue175 w))
  t222 := ((Seq.pu 178).trans Tryz.underlying178)
  a222 := (fun w => (Seq.ag 178 w).trans (Tryz.isAgg178 w))
  z222 := (fun w => (Seq.so 178 w).trans (Tryz.sizeOf178 w))
  v222 := (fun w => (Seq.zv 178 w).trans (Tryz.zeroValue178 w))
  t228 := ((Seq.pu 180).trans Tryz.underlying180)
  a228 := (fun w => (Seq.ag 180 w).trans (Tryz.isAgg180 w))
  z228 := (fun w => (Seq.so 180 w).trans (Tryz.sizeOf180 w))
  v228 := (fun w => (Seq.zv 180 w).trans (Tryz.zeroValue180 w))
  t229 := ((Seq.pu 181).trans Tryz.underlying181)
  a229 := (fun w => (Seq.ag 181 w).trans (Tryz.isAgg181 w))
  z229 := (fun w => (Seq.so 181 w).trans (Tryz.sizeOf181 w))
  v229 := (fun w => (Seq.zv 181 w).trans (Tryz.zeroValue181 w)) }
def Seq.compInt_ren : Go.Shelf.Ren := ⟨fun | 20 => 107 | n => n, fun | 22 => 38 | 3 => 3 | 4 => 4 | 0 => 0 | n => n, fun | n => n⟩
theorem Seq.compInt : Go.Proofs.Lays2.n20 Seq.prog Seq.compInt_ren := {
  mixed := by kernel_rfl
  f20 := Seq.func107.trans (congrArg some (by kernel_rfl))
  t0 := ((Seq.pu 0).trans Tryz.underlying0)
  a0 := (fun w => (Seq.ag 0 w).trans (Tryz.isAgg0 w))
  z0 := (fun w => (Seq.so 0 w).trans (Tryz.sizeOf0 w))
  v0 := (fun w => (Seq.zv 0 w).trans (Tryz.zeroValue0 w))
  t3 := ((Seq.pu 3).trans Tryz.underlying3)
  a3 := (fun w => (Seq.ag 3 w).trans (Tryz.isAgg3 w))
  z3 := (fun w => (Seq.so 3 w).trans (Tryz.sizeOf3 w))
  v3 := (fun w => (Seq.zv 3 w).trans (Tryz.zeroValue3 w))
  t4 := ((Seq.pu 4).trans Tryz.underlying4)
  a4 := (fun w => (Seq.ag 4 w).trans (Tryz.isAgg4 w))
  z4 := (fun w => (Seq.so 4 w).trans (Tryz.sizeOf4 w))
  v4 := (fun w => (Seq.zv 4 w).trans (Tryz.zeroValue4 w))
  t22 := ((Seq.pu 38).trans Tryz.underlying38)
  a22 := (fun w => (Seq.ag 38 w).trans (Tryz.isAgg38 w))
  z22 := (fun w => (Seq.so 38 w).trans (Tryz.sizeOf38 w))
  v22 := (fun w => (Seq.zv 38 w).trans (Tryz.zeroValue38 w))
  i3 := by kernel_rfl }
end Go.Proofs.YthgelfnflafoiaeGreat
namespace Go.Proofs.YthgelfnflafoiaeGreat.Q
open Sim (Seq.prog)
open Go.RowKit
theorem sortInts_any {w : World} {base e g cap : Nat} {A : List Int} (h : w.ownsRow base e 1 (.slice (some ⟨g, 0, none⟩) A.length cap) A.length (A.map (Value.int .i64))) (hlen : A.length < 4611686018427387904) :
   Calls Seq.prog 106 #[.slice (some ⟨g, 0, none⟩) A.length cap] w fun en w' => en = .returned (.tuple #[]) /\ ∃ Z : List Int, Z.Perm A /\ Z.Pairwise (· <= ·) /\ w'.ownsRow base e 1 (.slice (some ⟨g, 0, none⟩) A.length cap) A.length (Z.map (Value.int .i64)) /\ w.grownBy w' (some g) := by
 have hg := h.lt g rfl
 rcases h.2 with ⟨h0, _⟩ | ⟨g', cap', cur, hv, hbase, hh, h1, h2, h3, h4⟩
 · cases h0
 simp only [Value.slice.injEq, Option.some.injEq, Addr.mk.injEq, and_true, true_and] at hv
 obtain ⟨rfl, rfl⟩ := hv
 have hcon := Any.slices_Sort_int Seq.sortInt g 0 cap A w (holds_of_blockI hh (by rw [Nat.mul_one] at h4; exact h4)) hg.2 hlen
 change Calls Seq.prog 106 _ _ _ at hcon
 refine hcon.mono ?_
 rintro en w' ⟨rfl, n, os, rfl⟩
 refine ⟨rfl, A.mergeSort fun x y => decide (x <= y), List.mergeSort_perm _ _, ?_, ownsRow_sortedI (by simp) hbase hh h1 h2 h3, grownBy_sortedI _⟩
 have := List.pairwise_mergeSort (le := fun x y : Int => decide (x <= y)) (fun a b c h1 h2 => by simp only [decide_eq_true_eq] at *; omega) (fun a b => by simp only [Bool.or_eq_true, decide_eq_true_eq]; omega) A
 exact this.imp (fun h => by simpa using h)
theorem toArray_get {Z : List Int} {m : Nat} (hm : m < Z.length) : Z.toArray[m]! = Z[m] := by simp [hm]
theorem compact_inv {Z : List Int} (hZ : Z.Pairwise (· <= ·)) (m : Nat) (hm : m <= Z.length) :
   (Lib.compactUpTo Z.toArray m).Pairwise (· < ·) /\ (∀ x, x ∈ Lib.compactUpTo Z.toArray m ↔ x ∈ Z.take m) /\ (Lib.compactUpTo Z.toArray m).length <= m := by
 induction m with
 | zero => exact ⟨List.Pairwise.nil, fun x => by simp [Lib.compactUpTo], Nat.le_refl _⟩
 | succ m ih =>
   obtain ⟨h1, h2, h3⟩ := ih (by omega)
   have hlt : m < Z.length := by omega
   rw [Lib.compactUpTo_succ, toArray_get hlt]
   have hZ' := hZ
   rw [List.pairwise_iff_getElem] at hZ'
   by_cases hk : Lib.keeps Z.toArray m = true
   · rw [if_pos hk]
     refine ⟨?_, fun x => ?_, by simp only [List.length_append, List.length_singleton]; omega⟩
     · rw [List.pairwise_append]
       refine ⟨h1, List.pairwise_singleton _ _, fun a ha b hb => ?_⟩
       simp only [List.mem_singleton] at hb
       subst hb
       obtain ⟨j, hj, e⟩ := mem_take_lt ((h2 a).1 ha)
       obtain ⟨hjl, e⟩ := List.getElem?_eq_some_iff.1 e
       subst e
       have hne : Z[m] ≠ Z[m - 1] := by
         unfold Lib.keeps at hk
         simp only [decide_eq_true_eq] at hk
         rcases hk with hk | hk
         · omega
         · rwa [toArray_get hlt, toArray_get (by omega : m - 1 < Z.length)] at hk
       have h4 := hZ' (m - 1) m (by omega) hlt (by omega)
       have h5 : Z[j] <= Z[m - 1] := by
         by_cases e : j = m - 1
         · subst e; exact Int.le_refl _
         · exact hZ' j (m - 1) hjl (by omega) (by omega)
       omega
     · rw [take_succ_get Z m hlt, List.mem_append, List.mem_append, h2 x]
   · rw [if_neg hk, List.append_nil]
     refine ⟨h1, fun x => ?_, by omega⟩
     have h0 : 0 < m := by
       rcases Nat.eq_zero_or_pos m with e | e
       · subst e; exact absurd (Lib.keeps_lt_one _ 0 (by omega)) hk
       · exact e
     have he : Z[m] = Z[m - 1] := by
       rcases Decidable.em (Z[m] = Z[m - 1]) with e | e
       · exact e
       · exact absurd (Lib.keeps_pos (by rw [toArray_get hlt, toArray_get (by omega : m - 1 < Z.length)]; exact e)) hk
     rw [take_succ_get Z m hlt, List.mem_append, h2 x]
     constructor
     · exact .inl
     · rintro (h | h)
       · exact h
       · simp only [List.mem_singleton] at h
         rw [h, he]
         have : (Z.take m)[m - 1]? = some Z[m - 1] := by rw [List.getElem?_take_of_lt (by omega), List.getElem?_eq_getElem (by omega)]
         exact List.mem_of_getElem? this
theorem compact_len (Z : List Int) : (Lib.compact Z).length <= Z.length := by
 unfold Lib.compact Lib.compactUpTo
 rw [List.length_map]
 exact Nat.le_trans (List.length_filter_le _ _) (by simp)
theorem compact_ordered {A Z : List Int} (hp : Z.Perm A) (hZ : Z.Pairwise (· <= ·)) : Ordered A (Lib.compact Z) := by
 obtain ⟨h1, h2, h3⟩ := compact_inv hZ Z.length (Nat.le_refl _)
 exact ⟨h1, fun x => by rw [show Lib.compact Z = Lib.compactUpTo Z.toArray Z.length from rfl, h2 x, List.take_length]; exact hp.mem_iff, by have := hp.length_eq; unfold Lib.compact; omega⟩
theorem compact_any {w : World} {base e g cap n : Nat} {Z : List Int} (hn : Z.length = n) (h : w.ownsRow base e 1 (.slice (some ⟨g, 0, none⟩) n cap) n (Z.map (Value.int .i64))) (hlen : n < 4611686018427387904) :
   Calls Seq.prog 107 #[.slice (some ⟨g, 0, none⟩) n cap] w fun en w' => en = .returned (.slice (some ⟨g, 0, none⟩) (Lib.compact Z).length cap) /\ ZsAt w' (some ⟨g, 0, none⟩) (Lib.compact Z) /\ w.grownBy w' (some g) := by
 subst hn
 rcases h.2 with ⟨h0, _⟩ | ⟨g', cap', cur, hv, hbase, hh, h1, h2, h3, h4⟩
 · cases h0
 simp only [Value.slice.injEq, Option.some.injEq, Addr.mk.injEq, and_true, true_and] at hv
 obtain ⟨rfl, rfl⟩ := hv
 have hcon := Any.slices_Compact_int Seq.compInt g 0 cap Z w (holds_of_blockI hh (by rw [Nat.mul_one] at h4; exact h4)) (by omega) h1
 change Calls Seq.prog 107 _ _ _ at hcon
 refine hcon.mono ?_
 rintro en w' ⟨rfl, q, rfl⟩
 have hle : (Lib.compact Z).length <= Z.length := compact_len Z
 have ho := ownsRow_sortedI (n := q) (os := #[]) (ss := Z) (ts := Lib.compact Z ++ List.replicate (Z.length - (Lib.compact Z).length) 0) (by simp; omega) hbase hh h1 h2 h3
 have hgr := grownBy_sortedI (w := w) (g := g) (n := q) (os := #[]) (Lib.compact Z ++ List.replicate (Z.length - (Lib.compact Z).length) 0).toArray
 rw [Sort.grow_empty] at ho hgr
 refine ⟨rfl, ?_, hgr⟩
 by_cases h0 : Lib.compact Z = []
 · exact .inl h0
 refine .inr ⟨g, 0, rfl, (ho.lt g rfl).2, fun j hj => ?_⟩
 rw [Nat.zero_add, ho.cellAt j (by omega), List.getElem?_map, List.getElem?_append_left hj, List.getElem?_eq_getElem hj, List.getD_eq_getElem?_getD, List.getElem?_eq_getElem hj]
 rfl
theorem compact_nil (w : World) : Calls Seq.prog 107 #[.slice none 0 0] w fun en w' => en = .returned (.slice none 0 0) /\ w' = w := by
 go_enter Seq.func107, Tryz.ntmps107
 go_wp2
 go_ret
 exact ⟨rfl, rfl⟩
theorem sort_nil (w : World) : Calls Seq.prog 106 #[.slice none 0 0] w fun en w' => en = .returned (.tuple #[]) /\ w' = w := by
 have hcon := Any.slices_Sort_int_none Seq.sortInt none 0 w
 change Calls Seq.prog 106 _ _ _ at hcon
 exact hcon
theorem hideS {p : Prop} (h : p) : Hid p := h
set_option maxRecDepth 100000 in
set_option maxHeartbeats 4000000 in
theorem clone1_any (ao : Option Addr) (cap : Nat) (A : List Int) (w : World) (hz : ZsAt w ao A) (h8 : A.length <= 800) :
   Calls Seq.prog 105 #[.slice ao A.length cap] w fun e w' => ∃ v', e = .returned v' /\ w'.ownsRow w.heap.size 3 1 v' A.length (A.map (Value.int .i64)) /\ Below w.heap.size w w' := by
 obtain ⟨i0, hi, hz0, hz1, hz2⟩ := info_parts Tryz.infoInt
 have q22 : ∀ (w : World) (a : Option Addr) (n c n' c' : Nat), (binOp .eql 38 (.slice a n c) (.slice none n' c')).run Seq.prog w = .ok (.bool a.isNone) w := fun w a n c n' c' => Lib.run_eql_slice_nil w _ _ a n c n' c' ((Seq.pu 38).trans Tryz.underlying38)
 cases ao with
 | none =>
   have h0 : A = [] := by
     rcases hz with h | ⟨b, off, e, _⟩
     · exact h
     · cases e
   subst h0
   clear hz
   go_enter Seq.func105, Tryz.ntmps105
   go_wp2
   go_ret
   exact ⟨_, rfl, World.ownsRow_nil _ _ _ _, Below.refl _ _⟩
 | some a =>
   have hc : ∀ o, ∀ j u, (A.map (Value.int .i64))[j]? = some u -> (w.alloc o).cell? (a.add j) = some u := by
     intro o j u hu
     have hj : j < A.length := by have := (List.getElem?_eq_some_iff.1 hu).1; simpa using this
     rcases hz.below (pal w o) with h | ⟨b, off, e, _, hc⟩
     · rw [h] at hj; simp at hj
     · simp only [Option.some.injEq] at e
       subst e
       rw [Go.WideShapes.add_plain, hc j hj]
       rw [List.getElem?_map, List.getElem?_eq_getElem hj] at hu
       simp only [Option.map_some, Option.some.injEq] at hu
       rw [<- hu, List.getD_eq_getElem?_getD, List.getElem?_eq_getElem hj]
       rfl
   have HC := hideS hc
   have HONE : Hid (∀ u ∈ A.map (Value.int .i64), u.oneCell' = true) := by intro u hu; rw [List.mem_map] at hu; obtain ⟨z, _, rfl⟩ := hu; rfl
   have HEL : Hid ((A.map (Value.int .i64)).length = A.length * 1) := by show _ = _; simp
   clear hc hz
   go_enter Seq.func105, Tryz.ntmps105
   go_wp2_with (at_builtin; refine wpList_append_own _ rfl _ _ 38 rfl w.heap.size 3 i0 (.int .i64 0) 1 8 ((Seq.pu 38).trans Tryz.underlying38) hi hz0 hz1 hz2 rfl (by decide) _ _ _ rfl (World.ownsRow_made w #[] 0 (Nat.le_refl _) (Nat.zero_le _) rfl) a A.length cap (A.map (Value.int .i64)) rfl HEL.out (HC.out _) HONE.out (by unfold maxLen; omega) (by omega) (by simp) ?_; intro v' w1 hown hgrow hnil)
   have hb : Below w.heap.size w w1 := ((Below.refl _ w).alloc (Nat.le_refl _) _).grown hgrow (by simp) (fun k hk => by cases hk; exact Nat.le_refl _)
   have R : w1.ownsRow w.heap.size 3 1 v' A.length (A.map (Value.int .i64)) := by simpa using hown
   clear hown hgrow hnil
   go_wp2
   go_ret
   exact ⟨v', rfl, R, hb⟩
def spn (S : List Int) (j : Nat) : List (Int × Int) := (List.range j).map fun i => (S.getD i 0, S.getD (i + 1) 0)
theorem spn_length (S : List Int) (j : Nat) : (spn S j).length = j := by simp [spn]
theorem spn_get (S : List Int) (j k : Nat) (h : k < j) (hS : k + 1 < S.length) : (spn S j).getD k (0, 0) = (S[k], S[k + 1]) := by
 simp [spn, List.getD_eq_getElem?_getD, h, hS, show k < S.length by omega]
theorem encs_spn (S : List Int) (j : Nat) (h : j + 1 < S.length) : encs (spn S (j + 1)) = encs (spn S j) ++ [.int .i64 S[j], .int .i64 S[j + 1]] := by
 unfold spn
 rw [List.range_succ, List.map_append]
 unfold encs flat
 rw [List.flatMap_append, List.map_append]
 simp [List.getD_eq_getElem?_getD, h, show j < S.length by omega]
set_option maxRecDepth 100000 in
set_option maxHeartbeats 4000000 in
theorem spans_any (ao : Option Addr) (ca : Nat) (A : List Int) (w : World) (hz : ZsAt w ao A) (h8 : A.length <= 800) :
   Calls Seq.prog 98 #[.slice ao A.length ca] w fun e w' => ∃ S v, e = .returned v /\ Ordered A S /\ w'.ownsRow w.heap.size 88 2 v (S.length - 1) (encs (spn S (S.length - 1))) /\ Below w.heap.size w w' := by
 obtain ⟨i0, hi, hz0, hz1, hz2⟩ := info_parts Tryz.infoIvl
 have hcl := clone1_any ao ca A w hz h8
 clear hz
 go_enter Seq.func98, Tryz.ntmps98
 go_wp2_with fail
 refine hcl.mono ?_
 rintro e w0 ⟨v0, rfl, hown0, hb0⟩
 clear hcl
 have hcase := hown0.2
 rcases hcase with ⟨rfl, h0⟩ | ⟨g, cap, cur, rfl, _⟩
 · have hA : A = [] := List.eq_nil_of_length_eq_zero h0
   have hs := fun W => sort_nil W
   have hk := fun W => compact_nil W
   have HO : Hid (Ordered A []) := by rw [hA]; exact ⟨List.Pairwise.nil, fun x => Iff.rfl, Nat.le_refl _⟩
   clear hown0 h0 hA
   go_wp2_with (first | (go_at_call 106; refine (hs _).mono ?_; rintro e w' ⟨rfl, rfl⟩) | (go_at_call 107; refine (hk _).mono ?_; rintro e w' ⟨rfl, rfl⟩))
   refine wp_loop_rounds 1 ?_
   rw [rounds_succ]
   go_wp2
   go_ret
   exact ⟨[], _, rfl, HO.out, World.ownsRow_nil _ _ _ _, by assumption⟩
 · have hgW := (hown0.lt g rfl).1
   have hsort := sortInts_any hown0 (by omega)
   clear hown0
   go_wp2_with fail
   refine hsort.mono ?_
   rintro e w1 ⟨rfl, Z, hpZ, hZ, hown1, hg1⟩
   have hb1 : Below w.heap.size w w1 := hb0.grown hg1 hb0.size (fun k hk => by cases hk; exact hgW)
   have hcomp := compact_any hpZ.length_eq hown1 (by omega)
   have HO : Hid (Ordered A (Lib.compact Z)) := compact_ordered hpZ hZ
   clear hpZ hZ hown1 hg1 hsort hb0
   generalize Lib.compact Z = S at HO hcomp
   have hSl : S.length <= 800 := Nat.le_trans HO.out.len h8
   go_wp2_with fail
   refine hcomp.mono ?_
   rintro e w2 ⟨rfl, hz2', hg2⟩
   have hb2 : Below w.heap.size w w2 := hb1.grown hg2 hb1.size (fun k hk => by cases hk; exact hgW)
   clear hg2 hb1 hcomp
   go_wp2_with fail
   go_loopw [4, 5] (fun v vi wr => ∃ (j : Nat), vi = .int .i64 ((j : Int) + 1) /\ (j = 0 \/ j + 1 <= S.length) /\ wr.ownsRow w2.heap.size 88 2 v j (encs (spn S j)) /\ Below w2.heap.size w2 wr) (fun _ vi _ => S.length + 1 - (intOf vi).toNat)
   case atStart => exact ⟨0, rfl, .inl rfl, World.ownsRow_nil _ _ _ _, Below.refl _ _⟩
   case round =>
     obtain ⟨j, rfl, hil, hown, hb⟩ := hrel
     have hj8 : j <= 800 := by omega
     have hsz := hb.size
     by_cases hlt : j + 1 < S.length
     · rcases hz2' with h0 | ⟨b, off, e0, hbw, hc⟩
       · subst h0; simp at hlt
       simp only [Option.some.injEq, Addr.mk.injEq, and_true] at e0
       obtain ⟨rfl, rfl⟩ := e0
       have c0 : wr.cell? ⟨g, j, none⟩ = some (.int .i64 S[j]) := by
         have := hc j (by omega)
         rw [Nat.zero_add] at this
         rw [hb.cell (p := ⟨g, j, none⟩) hbw, this, List.getD_eq_getElem?_getD, List.getElem?_eq_getElem (by omega)]; rfl
       have c1 : wr.cell? ⟨g, j + 1, none⟩ = some (.int .i64 S[j + 1]) := by
         have := hc (j + 1) (by omega)
         rw [Nat.zero_add] at this
         rw [hb.cell (p := ⟨g, j + 1, none⟩) hbw, this, List.getD_eq_getElem?_getD, List.getElem?_eq_getElem (by omega)]; rfl
       have HE := hideS (encs_spn S j hlt)
       have hne : some g ≠ u4.ownBlock := fun h => by have := (hown.lt g h.symm).1; omega
       have hbr : g < wr.heap.size := by omega
       have hi1 : (j : Int) + 1 < (S.length : Int) := by omega
       have hi2 : (j : Int) < (S.length : Int) := by omega
       have hi3 : (0 : Int) <= (j : Int) := by omega
       have hi4 : (0 : Int) <= (j : Int) + 1 := by omega
       have hw1 : IntKind.i64.wrap ((j : Int) + 1 - 1) = (j : Int) := by rw [Int.add_sub_cancel]; exact wrap_small _ (by omega) (by omega)
       have hw2 : IntKind.i64.wrap (j : Int) = (j : Int) := wrap_small _ (by omega) (by omega)
       have HB : Hid (∀ (o : Obj) (w1 : World), ((wr.alloc o).drew).grownBy w1 u4.ownBlock -> Below w2.heap.size w2 w1) := fun o w1 hgr => ((hb.alloc hsz o).drew).grown hgr (by simp; omega) (fun j hj => (hown.lt j hj).1)
       clear hc
       go_wp2
       go_region_held3 (fun w' => w'.cell? ⟨g, j, none⟩ = some (.int .i64 S[j]) /\ w'.cell? ⟨g, j + 1, none⟩ = some (.int .i64 S[j + 1]))
         (first
           | go_keep
           | (go_split_ands
              refine ⟨?_, ?_⟩
              · (rw [hgrow.cell_far _ (by simp; omega) hne]; assumption)
              · (rw [hgrow.cell_far _ (by simp; omega) hne]; assumption)))
         ((refine step_append_lies _ (by rfl) _ _ _ (by rfl) w2.heap.size 88 i0 _ 2 16 ((Seq.pu 22).trans Tryz.underlying22) hi hz0 hz1 hz2 rfl (by omega) u4 j (encs (spn S j)) (by rfl) ((hown.alloc _).drew) ⟨wr.heap.size, 0, none⟩ 1 1 [.int .i64 S[j], .int .i64 S[j + 1]] (by rfl) (by rfl) (World.news_of_block (cs := #[.int .i64 S[j], .int .i64 S[j + 1]]) (t := 88) (fr := (0, 0)) (heap_alloc_new wr _)) (by simp [Value.oneCell']) (by omega) (by unfold maxLen; omega) (by omega) (by simp; omega) (wr.heap.size + 1) (by simp) ?_; intro gg cap1 w3 hown1 hgrow hat hltg))
       have hb' := HB.out _ _ hgrow
       rw [<- HE.out] at hown1
       clear hgrow hown hat hltg hne
       go_wp2
       go_roundw
       case rel => exact ⟨j + 1, by go_num, .inr (by omega), hown1, hb'⟩
       case measure => simp [intOf]; omega
     · have hil' : j = S.length - 1 := by omega
       have HR : Hid (wr.ownsRow w.heap.size 88 2 u4 (S.length - 1) (encs (spn S (S.length - 1)))) := by
         show World.ownsRow _ _ _ _ _ _ _
         rw [<- hil']; exact owns_base2 hown hb2.size
       have hbb := ptw hb2 hb
       have hi1 : ¬ ((j : Int) + 1 < (S.length : Int)) := by omega
       clear hown hil' hz2'
       go_wp2
       go_ret
       exact ⟨S, _, rfl, HO.out, HR.out, hbb⟩
end Go.Proofs.YthgelfnflafoiaeGreat.Q
