/-
  Several texts in one.
-/
import Derived.Shelf.Strconv.Itoa0
import Derived.Shelf.Sort.Plain
import Derived.Ground.Names2Prog
import Derived.Shelf.Slices.CompactI
import Derived.Shelf.Slices.In.SortNone
import Derived.Ground.NamesProg
import Derived.Sort.OwnSortedInts
import Derived.Lib.SlicesCompact
import Derived.Test.YthgelfnflafoiabGreatPk8
namespace Go.Proofs.YthgelfnflafoiabGreat.Q
open Sim (Seq.prog)
open Go.RowKit
noncomputable def pcJ (g : Gr) (p : Nat) (fr : Int) (k j : Nat) : Nat -> List P3 := fun v => if v < j then allP g p fr v (k + 1) else allP g p fr v k
theorem pcJ_zero (g : Gr) (p : Nat) (fr : Int) (k : Nat) : pcJ g p fr k 0 = fun v => allP g p fr v k := by funext v; simp [pcJ]
theorem pcJ_at (g : Gr) (p : Nat) (fr : Int) (k j : Nat) : pcJ g p fr k j j = allP g p fr j k := by simp [pcJ]
theorem pcJ_step (g : Gr) (p : Nat) (fr : Int) (k j : Nat) : pcJ g p fr k (j + 1) = updF (pcJ g p fr k j) j (allP g p fr j (k + 1)) := by
 funext v
 unfold pcJ updF
 by_cases e : v = j
 · subst e; simp
 · rw [if_neg e]
   show _ = if v < j then allP g p fr v (k + 1) else allP g p fr v k
   by_cases h : v < j
   · rw [if_pos h, if_pos (by omega)]
   · rw [if_neg h, if_neg (by omega)]
theorem pcJ_skip {g : Gr} {p : Nat} {fr : Int} {k j : Nat} (h : allP g p fr j (k + 1) = allP g p fr j k) : pcJ g p fr k (j + 1) = pcJ g p fr k j := by
 rw [pcJ_step, h]
 funext v
 unfold updF
 by_cases e : v = j
 · subst e; rw [if_pos rfl, pcJ_at]
 · rw [if_neg e]
theorem AM.congr {W : World} {base go n : Nat} {val : Nat -> Value} {pcs pcs' : Nat -> List P3} (A : AM W base go n val pcs) (h : ∀ v, v < n -> pcs v = pcs' v) : AM W base go n val pcs' := ⟨A.own, fun v hv => by rw [<- h v hv]; exact A.inn v hv, A.ap⟩
theorem AM.base {W : World} {base base' go n : Nat} {val : Nat -> Value} {pcs : Nat -> List P3} (A : AM W base go n val pcs) (h : base' <= base) : AM W base' go n val pcs := ⟨owns_base2 A.own h, fun v hv => owns_base2 (A.inn v hv) h, A.ap⟩
theorem own_slice {W : World} {base e size n : Nat} {v : Value} {xs : List Value} (h : W.ownsRow base e size v n xs) (hn : 0 < n) : ∃ b c, v = .slice (some ⟨b, 0, none⟩) n c := by
 rcases h.2 with ⟨_, h0⟩ | ⟨b, c, cur, e, _⟩
 · omega
 · exact ⟨b, c, e⟩
theorem last_or (l : List P3) : l = [] \/ ∃ init f t x, l = init ++ [(f, t, x)] := by
 rcases List.eq_nil_or_concat l with h | ⟨a, b, h⟩
 · exact .inl h
 · exact .inr ⟨a, b.1, b.2.1, b.2.2, by rw [h]; simp⟩
theorem Tryz.infoPcs : (Seq.prog.info? 32).map (fun i => (i.zero, i.size, i.bytes)) = some (some (.slice none 0 0), 1, 24) := by kernel_rfl
theorem am_start {w0 : World} {base go n : Nat} (h : w0.ownsRow base 32 1 (.slice (some ⟨go, 0, none⟩) n n) n (madeCells (Value.slice none 0 0).cells (n * 1)).toList) : AM w0 base go n (fun _ => .slice none 0 0) (fun _ => []) := by
 have e1 : (madeCells (Value.slice none 0 0).cells (n * 1)).toList = (List.range n).map (fun _ => Value.slice none 0 0) := by
   rw [Nat.mul_one]
   show (madeCells #[Value.slice none 0 0] n).toList = _
   rw [toList_madeCells_one]
   simp [List.map_const']
 rw [e1] at h
 exact ⟨h, fun _ _ => World.ownsRow_nil _ _ _ _, fun _ _ _ _ _ => .inl rfl⟩
set_option maxRecDepth 100000 in
set_option maxHeartbeats 8000000 in
theorem All_any (g : Gr) (la ea : Option Addr) (lc ec : Nat) (p : Nat) (fr : Int) (w : World) (hG : GAt w la ea g) (hR : Right g) (hp : p = 1 \/ p = 2 \/ p = 3) :
   Calls Seq.prog 5 #[.agg #[.int .i64 g.hor, .slice la g.lives.length lc, .slice ea g.edges.length ec], .int .i64 p, .int .i64 fr] w fun r w' => ∃ go val, r = .returned (.tuple #[.slice (some ⟨go, 0, none⟩) g.lives.length g.lives.length, .int .i64 (allR g p fr g.hor.toNat)]) /\ AM w' w.heap.size go g.lives.length val (fun v => allP g p fr v g.hor.toNat) /\ Below w.heap.size w w' := by
 obtain ⟨i0, hi, hz0, hz1, hz2⟩ := info_parts Tryz.infoPiece
 obtain ⟨i1, hi', hy0, hy1, hy2⟩ := info_parts Tryz.infoPcs
 have hor := hR.hor
 have hlv := hR.lvs
 obtain ⟨H, hH⟩ : ∃ H : Nat, H = g.hor.toNat := ⟨_, rfl⟩
 obtain ⟨n, hn⟩ : ∃ n : Nat, n = g.lives.length := ⟨_, rfl⟩
 have hHi : g.hor = (H : Int) := by omega
 have hH1 : 1 <= H /\ H <= 100 := by omega
 have hn12 : n <= 12 := by omega
 obtain ⟨w1, hw1⟩ : ∃ x, x = w.alloc (.cells #[.int .i64 g.hor, .slice la g.lives.length lc, .slice ea g.edges.length ec] 25) := ⟨_, rfl⟩
 have B1 : GBox w w1 w.heap.size g la ea lc ec := by rw [hw1]; exact gbox_start w g la ea lc ec _
 have HB1 := hideg B1
 have hw1s := hw1.symm
 have b1 := B1.c1
 have hsn : ∀ (k : Nat) (W : World), Below w1.heap.size w1 W -> Calls Seq.prog 15 #[.agg #[.int .i64 (H : Int), .slice la n lc, .slice ea g.edges.length ec], .int .i64 k] W fun r w' => ∃ ao ca bo cb, r = .returned (.agg #[.slice ao (aliveL k g.lives).length ca, .slice bo (arcsL k g.lives g.edges).length cb]) /\ BsAt w' ao (aliveL k g.lives) /\ PcAt w' bo (arcsL k g.lives g.edges) /\ Below W.heap.size W w' := fun k W hb => by
   have := RSnap_any g la ea lc ec k W (hG.below (B1.below hb).bel) hR
   rw [<- hn, hHi] at this
   refine this.mono ?_
   rintro r w' ⟨va, vc, rfl, h1, h2, h3⟩
   obtain ⟨ao, ca, rfl, h4⟩ := bsAt_of_owns h1
   obtain ⟨bo, cb, rfl, h5⟩ := pcAt_of_owns h2
   exact ⟨ao, ca, bo, cb, rfl, h4, h5, h3⟩
 have HSn := hideg hsn
 have hpl : ∀ (k : Nat) (ao bo : Option Addr) (ca cb : Nat) (W : World), BsAt W ao (aliveL k g.lives) -> PcAt W bo (arcsL k g.lives g.edges) -> Calls Seq.prog 14 #[.agg #[.slice ao (aliveL k g.lives).length ca, .slice bo (arcsL k g.lives g.edges).length cb], .int .i64 p, .int .i64 fr] W fun e w' => ∃ ox cx, e = .returned (.tuple #[.slice ox n cx, .int .i64 ((plF g p fr k).2 : Nat)]) /\ w'.ownsRow W.heap.size 3 1 (.slice ox n cx) n ((plF g p fr k).1.map (Value.int .i64)) /\ Below W.heap.size W w' := fun k ao bo ca cb W h1 h2 => by
   refine (rPlain_any ao bo ca cb _ _ fr p hp W h1 h2 (shot_snap hR k)).mono ?_
   rintro e w' ⟨v, x, kk, rfl, hI, ho, hb⟩
   have hq : PlIs g p fr k x kk := hI
   rw [plF_eq hq]
   rw [aliveL_length, <- hn] at ho
   have hxl : x.length = n := by have := ho.1; simpa using this
   obtain ⟨ox, cx, rfl, hz⟩ := zsAt_of_owns ho
   rw [hxl] at ho ⊢
   exact ⟨ox, cx, rfl, ho, hb⟩
 have HPl := hideg hpl
 rw [<- hn, <- hH]
 rw [hHi, <- hn] at hw1s
 rw [hHi]
 rw [<- hn] at b1
 have HHi := hideg hHi
 have HN := hideg hn
 clear hw1 hHi hn hH hor hlv hG hR B1 hsn hpl hp
 go_enter Seq.func5, Tryz.ntmps5
 go_wp2_with (at_make; refine wpList_make_full _ rfl _ _ 28 rfl w1.heap.size 32 i1 (.slice none 0 0) 1 ((Seq.pu 28).trans Tryz.underlying28) hi' hy0 hy1 .i64 .i64 _ _ n rfl rfl rfl rfl (by rw [hy2]; omega) (by unfold maxLen; omega) (by simp) ?_; intro w0 hown0 hgrow0)
 clear hw1s
 have HA0 := hideg (am_start hown0)
 have HB0 : Hid (Below w1.heap.size w1 w0) := (Below.refl w1.heap.size w1).grown hgrow0 (Nat.le_refl _) (fun k hk => by cases hk)
 clear hown0 hgrow0 b1
 go_loopw [9, 10] (fun r i wr => ∃ (k : Nat) (val : Nat -> Value), k <= H /\ i = .int .i64 k /\ r = .int .i64 (allR g p fr k) /\ AM wr w1.heap.size w1.heap.size n val (fun v => allP g p fr v k) /\ Below w1.heap.size w1 wr) (fun _ i _ => H - (intOf i).toNat)
 case atStart => exact ⟨0, _, Nat.zero_le _, rfl, rfl, HA0.out, HB0.out⟩
 case round =>
   clear HA0 HB0
   obtain ⟨k, val, hk, rfl, rfl, hA, hb⟩ := hrel
   have BR := HB1.out.below hb
   have b0 := BR.c0
   have b1 := BR.c1
   have b2 := BR.c2
   rw [HHi.out] at b0
   rw [<- HN.out] at b1
   have HA := hideg hA
   have HBb := hideg hb
   have HF := hideg BR.bel
   by_cases hkH : k < H
   · have HC := hideg (HSn.out k wr hb)
     have HRk : Hid (allR g p fr (k + 1) = max (allR g p fr k) ((plF g p fr k).2 : Int)) := rfl
     have HPk := hideg (HPl.out k)
     have HPs : Hid (∀ v, allP g p fr v (k + 1) = oneP (allP g p fr v k) k ((plF g p fr k).1.getD v 0)) := fun _ => rfl
     clear BR hA hb
     go_wp2_with fail
     refine HC.out.mono ?_
     rintro r w3 ⟨ao, ca, bo, cb, rfl, hBs, hPc, hb3⟩
     have HC2 := hideg (HPk.out ao bo ca cb w3 hBs hPc)
     have HA3 := hideg (HA.out.below hb3)
     have HB3 := hideg (HBb.out.trans (hb3.mono HBb.out.size))
     clear HC HPk hBs hPc hb3 b0 b1 b2 HA HBb HF
     go_wp2_with fail
     refine HC2.out.mono ?_
     rintro r w4 ⟨ox, cx, rfl, hX, hb4⟩
     have HA4 := hideg (HA3.out.below hb4)
     have HB4 := hideg (HB3.out.trans (hb4.mono HB3.out.size))
     have HX4 := hideg (owns_base2 hX HB3.out.size)
     clear HC2 HA3 HB3 hX hb4
     generalize allR g p fr k = r0 at HRk ⊢
     generalize (((plF g p fr k).2 : Nat) : Int) = r1 at HRk ⊢
     generalize (plF g p fr k).1 = x at HX4 HPs
     by_cases hm : r0 < r1
     · have HR2 : Hid (allR g p fr (k + 1) = r1) := by show _ = _; rw [HRk.out]; omega
       go_wp2_with fail
       go_loopw [13] (fun i wr => ∃ (j : Nat) (val : Nat -> Value), j <= n /\ i = .int .i64 j /\ AM wr w1.heap.size w1.heap.size n val (pcJ g p fr k j) /\ wr.ownsRow w1.heap.size 3 1 (.slice ox n cx) n (x.map (Value.int .i64)) /\ Below w1.heap.size w1 wr) (fun i _ => n - (intOf i).toNat)
       case atStart => exact ⟨0, val, Nat.zero_le _, rfl, by rw [pcJ_zero]; exact HA4.out, HX4.out, HB4.out⟩
       case round =>
         clear HA4 HX4 HB4
         obtain ⟨j, val2, hj, rfl, hA, hX, hb⟩ := hrel
         by_cases hjn : j < n
         · obtain ⟨xb, rfl⟩ : ∃ xb, ox = some ⟨xb, 0, none⟩ := by
             rcases hX.2 with ⟨_, h0⟩ | ⟨xb, xc, xcur, e, _⟩
             · omega
             · cases e; exact ⟨xb, rfl⟩
           have x1 := Zo.cell hX hjn
           have a0 := hA.out hjn
           have hinn := hA.inn j hjn
           rw [pcJ_at] at hinn
           have hll := allP_len g p fr j k
           have hji : (j : Int) < (n : Int) := by omega
           have hjw : IntKind.i64.wrap ((j : Int) + 1) = (j : Int) + 1 := wrap_nr _ (by omega) (by omega)
           have hkw : IntKind.i64.wrap ((k : Int) + 1) = (k : Int) + 1 := wrap_nr _ (by omega) (by omega)
           have HP1 := hideg (HPs.out j)
           have HA := hideg hA
           have HX := hideg hX
           have HBb := hideg hb
           generalize x.getD j 0 = y at x1 HP1
           by_cases hy : y = 1099511627776
           · have dy : (y == 1099511627776) = true := by simpa using hy
             have HRn : Hid (AM wr w1.heap.size w1.heap.size n val2 (pcJ g p fr k (j + 1))) := by
               show AM _ _ _ _ _ _
               rw [pcJ_skip (by rw [HP1.out, oneP_skip hy])]; exact HA.out
             clear hA hX hb hinn hy
             go_wp2
             go_roundw
             case rel => exact ⟨j + 1, val2, by omega, by go_num, HRn.out, HX.out, HBb.out⟩
             case measure => simp [intOf]; omega
           · have dy : (y == 1099511627776) = false := by simpa using hy
             obtain ⟨ob, cap, hV, hPc⟩ := pcAt_of_owns hinn
             rw [hV] at a0 hinn
             have HV := hideg hV
             have Hy := hideg hy
             have HI := hideg hinn
             generalize hl : allP g p fr j k = l at *
             have HL := hideg hl
             clear hA hX hb hV hy hinn hl
             rcases last_or l with rfl | ⟨init, f, t', x', rfl⟩
             · clear hPc
               go_wp2_with fail
               go_quiet (fail)
               have hbq : Below wr.heap.size wr (wr.drewN nq) := below_drewN (Below.refl _ wr) nq
               have Aq := HA.out.below hbq
               have a0q := Aq.out hjn
               have x1q := (hbq.cell (p := ⟨xb, j, none⟩) (World.ownsRow.lt HX.out xb rfl).2).trans x1
               rw [HV.out] at a0q
               have Iq := ownsRow_below HI.out hbq
               have HAq := hideg Aq
               have HXq := hideg (ownsRow_below HX.out hbq)
               have HBq := hideg (HBb.out.trans (hbq.mono HBb.out.size))
               have hszq := HBq.out.size
               clear Aq hbq
               generalize wr.drewN nq = wq at *
               go_wp2_with (at_builtin; refine wpList_append_own_at _ rfl _ _ 32 rfl w1.heap.size 35 i0 (.agg #[.int .i64 0, .int .i64 0, .int .i64 0]) 3 24 ((Seq.pu 32).trans Tryz.underlying32) hi hz0 hz1 hz2 rfl (by decide) _ _ _ rfl (World.ownsRow.alloc (w := wq) Iq _) ⟨wq.heap.size, 0, none⟩ 1 1 [.int .i64 k, .int .i64 ((k : Int) + 1), .int .i64 y] rfl rfl (cells_three_new _ _ _ _ _ _ rfl) (by intro u hu; simp at hu; rcases hu with rfl | rfl | rfl <;> rfl) (by unfold maxLen; omega) (by omega) (by simp; omega) ?_; intro v' w5 hown5 hgrow _ hat; have o5 := World.ownsRow.kept (World.ownsRow.alloc (w := wq) HAq.out.own _) hgrow (owns_apart HAq.out.own Iq (by decide)); have fz5 := World.ownsRow.frozenAt o5 j; have c5 := World.ownsRow.cellAt o5 j (by omega); rw [List.getElem?_map, List.getElem?_range hjn] at c5; simp only [Option.map_some] at c5; obtain ⟨b5, cp5, rfl⟩ := own_slice hown5 (by omega))
               have HRn : Hid (AM (w5.setCell ⟨w1.heap.size, j, none⟩ (.slice (some ⟨b5, 0, none⟩) (0 + 1) cp5)) w1.heap.size w1.heap.size n (updF val2 j (.slice (some ⟨b5, 0, none⟩) (0 + 1) cp5)) (pcJ g p fr k (j + 1))) := by
                 show AM _ _ _ _ _ _
                 have h1 := HAq.out.put hjn (.cells #[.int .i64 k, .int .i64 ((k : Int) + 1), .int .i64 y] 35) (p := ((k : Int), (k : Int) + 1, y)) (by rw [HV.out]; exact hgrow) (by rw [pcJ_at, HL.out, enc3_append]; exact hown5) (by rw [HV.out]; exact hat)
                 rw [pcJ_at, HL.out] at h1
                 rw [pcJ_step, HP1.out, oneP_nil Hy.out]
                 exact h1
               have HX5 := hideg (ownsRow_setBox (j := j) (u := .slice (some ⟨b5, 0, none⟩) (0 + 1) cp5) (World.ownsRow.kept (World.ownsRow.alloc (w := wq) HXq.out _) hgrow (owns_apart HXq.out Iq (by decide))) (show some xb ≠ some w1.heap.size from by rcases owns_apart HXq.out HAq.out.own (by decide) with e | e; cases e; exact e))
               have HB5 := hideg (((HBq.out.alloc hszq _).grown hgrow (by simp; omega) (fun q hq => (Iq.lt q hq).1)).setCell (p := ⟨w1.heap.size, j, none⟩) (Nat.le_refl _) (.slice (some ⟨b5, 0, none⟩) (0 + 1) cp5))
               exact ⟨⟨j + 1, _, by omega, by go_num, HRn.out, HX5.out, HB5.out⟩, by simp [intOf]; omega⟩
             · obtain ⟨L, hLn⟩ : ∃ L, L = init.length := ⟨_, rfl⟩
               have hlen : (init ++ [(f, t', x')]).length = L + 1 := by simp [hLn]
               have e3 : enc3 (init ++ [(f, t', x')]) = enc3 init ++ [.int .i64 f, .int .i64 t', .int .i64 x'] := by rw [enc3_append]; rfl
               have le3 : (enc3 init).length = L * 3 := by rw [enc3_length, hLn]
               rw [hlen] at a0 HV HI hll
               obtain ⟨b, c, e⟩ := own_slice HI.out (by omega)
               cases e
               have m1 : wr.cell? ⟨b, L * 3 + 1, none⟩ = some (.int .i64 t') := by
                 rw [World.ownsRow.cellAt HI.out (L * 3 + 1) (by omega), e3, List.getElem?_append_right (by omega), le3, show L * 3 + 1 - L * 3 = 1 from by omega]; rfl
               have m2 : wr.cell? ⟨b, L * 3 + 2, none⟩ = some (.int .i64 x') := by
                 rw [World.ownsRow.cellAt HI.out (L * 3 + 2) (by omega), e3, List.getElem?_append_right (by omega), le3, show L * 3 + 2 - L * 3 = 2 from by omega]; rfl
               have hwL : IntKind.i64.wrap ((L : Int) + 1 - 1) = (L : Int) := by rw [wrap_nr _ (by omega) (by omega)]; omega
               have hLi : (L : Int) < (L : Int) + 1 := by omega
               have HLn := hideg hLn
               have hL100 : L <= 100 := by omega
               have hgt : decide ((0 : Int) < (L : Int) + 1) = true := by rw [decide_eq_true_eq]; omega
               have fzb := World.ownsRow.frozenAt HI.out (L * 3 + 1)
               have HLen := hideg hlen
               clear hPc e3 le3 hlen hLn
               by_cases ht : t' = (k : Int)
               · have dt : (t' == (k : Int)) = true := by simpa using ht
                 by_cases hx : x' = y
                 · have dx : (x' == y) = true := by simpa using hx
                   go_wp2_with fail
                   go_quiet (fail)
                   go_wp2_with fail
                   have hbq : Below wr.heap.size wr (wr.drewN nq) := below_drewN (Below.refl _ wr) nq
                   have Aq := HA.out.below hbq
                   have M1 := Aq.more hjn (l := init) (f := f) (t := t') (x := x') (m := (k : Int) + 1) (by rw [pcJ_at, HL.out]) (b := b) (cap := cap) (by rw [HV.out, pcJ_at, HL.out, HLen.out])
                   rw [<- HLn.out] at M1
                   have M2 : AM ((wr.drewN nq).setCell ⟨b, L * 3 + 1, none⟩ (.int .i64 ((k : Int) + 1))) w1.heap.size w1.heap.size n val2 (pcJ g p fr k (j + 1)) := by
                     rw [pcJ_step, HP1.out, ht, hx, oneP_more Hy.out]
                     rw [hx] at M1
                     exact M1
                   have Xq := ownsRow_below HX.out hbq
                   have hxb : some xb ≠ some b := by
                     rcases owns_apart HX.out HI.out (by decide) with e | e
                     · cases e
                     · exact e
                   exact ⟨⟨j + 1, val2, by omega, by go_num, M2, ownsRow_setBox Xq hxb, (HBb.out.trans (hbq.mono HBb.out.size)).setCell (p := ⟨b, L * 3 + 1, none⟩) (HI.out.lt b rfl).1 _⟩, by simp [intOf]; omega⟩
                 · have dx : (x' == y) = false := by simpa using hx
                   have hneq : ¬ (t' = (k : Int) /\ x' = y) := fun h => hx h.2
                   go_wp2_with fail
                   go_quiet (fail)
                   have hbq : Below wr.heap.size wr (wr.drewN nq) := below_drewN (Below.refl _ wr) nq
                   have Aq := HA.out.below hbq
                   have a0q := Aq.out hjn
                   have x1q := (hbq.cell (p := ⟨xb, j, none⟩) (World.ownsRow.lt HX.out xb rfl).2).trans x1
                   rw [HV.out] at a0q
                   have Iq := ownsRow_below HI.out hbq
                   have HAq := hideg Aq
                   have HXq := hideg (ownsRow_below HX.out hbq)
                   have HBq := hideg (HBb.out.trans (hbq.mono HBb.out.size))
                   have hszq := HBq.out.size
                   clear Aq hbq
                   generalize wr.drewN nq = wq at *
                   go_wp2_with (at_builtin; refine wpList_append_own_at _ rfl _ _ 32 rfl w1.heap.size 35 i0 (.agg #[.int .i64 0, .int .i64 0, .int .i64 0]) 3 24 ((Seq.pu 32).trans Tryz.underlying32) hi hz0 hz1 hz2 rfl (by decide) _ _ _ rfl (World.ownsRow.alloc (w := wq) Iq _) ⟨wq.heap.size, 0, none⟩ 1 1 [.int .i64 k, .int .i64 ((k : Int) + 1), .int .i64 y] rfl rfl (cells_three_new _ _ _ _ _ _ rfl) (by intro u hu; simp at hu; rcases hu with rfl | rfl | rfl <;> rfl) (by unfold maxLen; omega) (by omega) (by simp; omega) ?_; intro v' w5 hown5 hgrow _ hat; have o5 := World.ownsRow.kept (World.ownsRow.alloc (w := wq) HAq.out.own _) hgrow (owns_apart HAq.out.own Iq (by decide)); have fz5 := World.ownsRow.frozenAt o5 j; have c5 := World.ownsRow.cellAt o5 j (by omega); rw [List.getElem?_map, List.getElem?_range hjn] at c5; simp only [Option.map_some] at c5; obtain ⟨b5, cp5, rfl⟩ := own_slice hown5 (by omega))
                   have HRn : Hid (AM (w5.setCell ⟨w1.heap.size, j, none⟩ (.slice (some ⟨b5, 0, none⟩) (L + 1 + 1) cp5)) w1.heap.size w1.heap.size n (updF val2 j (.slice (some ⟨b5, 0, none⟩) (L + 1 + 1) cp5)) (pcJ g p fr k (j + 1))) := by
                     show AM _ _ _ _ _ _
                     have h1 := HAq.out.put hjn (.cells #[.int .i64 k, .int .i64 ((k : Int) + 1), .int .i64 y] 35) (p := ((k : Int), (k : Int) + 1, y)) (by rw [HV.out]; exact hgrow) (by rw [pcJ_at, HL.out, HLen.out, enc3_append]; exact hown5) (by rw [HV.out]; exact hat)
                     rw [pcJ_at, HL.out] at h1
                     rw [pcJ_step, HP1.out, oneP_new Hy.out (fun h => hneq h)]
                     exact h1
                   have HX5 := hideg (ownsRow_setBox (j := j) (u := .slice (some ⟨b5, 0, none⟩) (L + 1 + 1) cp5) (World.ownsRow.kept (World.ownsRow.alloc (w := wq) HXq.out _) hgrow (owns_apart HXq.out Iq (by decide))) (show some xb ≠ some w1.heap.size from by rcases owns_apart HXq.out HAq.out.own (by decide) with e | e; cases e; exact e))
                   have HB5 := hideg (((HBq.out.alloc hszq _).grown hgrow (by simp; omega) (fun q hq => (Iq.lt q hq).1)).setCell (p := ⟨w1.heap.size, j, none⟩) (Nat.le_refl _) (.slice (some ⟨b5, 0, none⟩) (L + 1 + 1) cp5))
                   exact ⟨⟨j + 1, _, by omega, by go_num, HRn.out, HX5.out, HB5.out⟩, by simp [intOf]; omega⟩
               · have dt : (t' == (k : Int)) = false := by simpa using ht
                 have hneq : ¬ (t' = (k : Int) /\ x' = y) := fun h => ht h.1
                 go_wp2_with fail
                 go_quiet (fail)
                 have hbq : Below wr.heap.size wr (wr.drewN nq) := below_drewN (Below.refl _ wr) nq
                 have Aq := HA.out.below hbq
                 have a0q := Aq.out hjn
                 have x1q := (hbq.cell (p := ⟨xb, j, none⟩) (World.ownsRow.lt HX.out xb rfl).2).trans x1
                 rw [HV.out] at a0q
                 have Iq := ownsRow_below HI.out hbq
                 have HAq := hideg Aq
                 have HXq := hideg (ownsRow_below HX.out hbq)
                 have HBq := hideg (HBb.out.trans (hbq.mono HBb.out.size))
                 have hszq := HBq.out.size
                 clear Aq hbq
                 generalize wr.drewN nq = wq at *
                 go_wp2_with (at_builtin; refine wpList_append_own_at _ rfl _ _ 32 rfl w1.heap.size 35 i0 (.agg #[.int .i64 0, .int .i64 0, .int .i64 0]) 3 24 ((Seq.pu 32).trans Tryz.underlying32) hi hz0 hz1 hz2 rfl (by decide) _ _ _ rfl (World.ownsRow.alloc (w := wq) Iq _) ⟨wq.heap.size, 0, none⟩ 1 1 [.int .i64 k, .int .i64 ((k : Int) + 1), .int .i64 y] rfl rfl (cells_three_new _ _ _ _ _ _ rfl) (by intro u hu; simp at hu; rcases hu with rfl | rfl | rfl <;> rfl) (by unfold maxLen; omega) (by omega) (by simp; omega) ?_; intro v' w5 hown5 hgrow _ hat; have o5 := World.ownsRow.kept (World.ownsRow.alloc (w := wq) HAq.out.own _) hgrow (owns_apart HAq.out.own Iq (by decide)); have fz5 := World.ownsRow.frozenAt o5 j; have c5 := World.ownsRow.cellAt o5 j (by omega); rw [List.getElem?_map, List.getElem?_range hjn] at c5; simp only [Option.map_some] at c5; obtain ⟨b5, cp5, rfl⟩ := own_slice hown5 (by omega))
                 have HRn : Hid (AM (w5.setCell ⟨w1.heap.size, j, none⟩ (.slice (some ⟨b5, 0, none⟩) (L + 1 + 1) cp5)) w1.heap.size w1.heap.size n (updF val2 j (.slice (some ⟨b5, 0, none⟩) (L + 1 + 1) cp5)) (pcJ g p fr k (j + 1))) := by
                   show AM _ _ _ _ _ _
                   have h1 := HAq.out.put hjn (.cells #[.int .i64 k, .int .i64 ((k : Int) + 1), .int .i64 y] 35) (p := ((k : Int), (k : Int) + 1, y)) (by rw [HV.out]; exact hgrow) (by rw [pcJ_at, HL.out, HLen.out, enc3_append]; exact hown5) (by rw [HV.out]; exact hat)
                   rw [pcJ_at, HL.out] at h1
                   rw [pcJ_step, HP1.out, oneP_new Hy.out (fun h => hneq h)]
                   exact h1
                 have HX5 := hideg (ownsRow_setBox (j := j) (u := .slice (some ⟨b5, 0, none⟩) (L + 1 + 1) cp5) (World.ownsRow.kept (World.ownsRow.alloc (w := wq) HXq.out _) hgrow (owns_apart HXq.out Iq (by decide))) (show some xb ≠ some w1.heap.size from by rcases owns_apart HXq.out HAq.out.own (by decide) with e | e; cases e; exact e))
                 have HB5 := hideg (((HBq.out.alloc hszq _).grown hgrow (by simp; omega) (fun q hq => (Iq.lt q hq).1)).setCell (p := ⟨w1.heap.size, j, none⟩) (Nat.le_refl _) (.slice (some ⟨b5, 0, none⟩) (L + 1 + 1) cp5))
                 exact ⟨⟨j + 1, _, by omega, by go_num, HRn.out, HX5.out, HB5.out⟩, by simp [intOf]; omega⟩
         · have hje : n = j := by omega
           subst hje
           have HRn : Hid (AM wr w1.heap.size w1.heap.size n val2 (fun v => allP g p fr v (k + 1))) := hA.congr (fun v hv => by unfold pcJ; rw [if_pos hv])
           have HBb := hideg hb
           have hkw : IntKind.i64.wrap ((k : Int) + 1) = (k : Int) + 1 := wrap_nr _ (by omega) (by omega)
           clear hA hX hb
           go_wp2
           go_roundw
           case rel => exact ⟨k + 1, val2, by omega, by go_num, by first | (rw [HR2.out]; done) | rw [HRk.out], HRn.out, HBb.out⟩
           case measure => simp [intOf]; omega
     · have HR2 : Hid (allR g p fr (k + 1) = r0) := by show _ = _; rw [HRk.out]; omega
       go_wp2_with fail
       go_loopw [13] (fun i wr => ∃ (j : Nat) (val : Nat -> Value), j <= n /\ i = .int .i64 j /\ AM wr w1.heap.size w1.heap.size n val (pcJ g p fr k j) /\ wr.ownsRow w1.heap.size 3 1 (.slice ox n cx) n (x.map (Value.int .i64)) /\ Below w1.heap.size w1 wr) (fun i _ => n - (intOf i).toNat)
       case atStart => exact ⟨0, val, Nat.zero_le _, rfl, by rw [pcJ_zero]; exact HA4.out, HX4.out, HB4.out⟩
       case round =>
         clear HA4 HX4 HB4
         obtain ⟨j, val2, hj, rfl, hA, hX, hb⟩ := hrel
         by_cases hjn : j < n
         · obtain ⟨xb, rfl⟩ : ∃ xb, ox = some ⟨xb, 0, none⟩ := by
             rcases hX.2 with ⟨_, h0⟩ | ⟨xb, xc, xcur, e, _⟩
             · omega
             · cases e; exact ⟨xb, rfl⟩
           have x1 := Zo.cell hX hjn
           have a0 := hA.out hjn
           have hinn := hA.inn j hjn
           rw [pcJ_at] at hinn
           have hll := allP_len g p fr j k
           have hji : (j : Int) < (n : Int) := by omega
           have hjw : IntKind.i64.wrap ((j : Int) + 1) = (j : Int) + 1 := wrap_nr _ (by omega) (by omega)
           have hkw : IntKind.i64.wrap ((k : Int) + 1) = (k : Int) + 1 := wrap_nr _ (by omega) (by omega)
           have HP1 := hideg (HPs.out j)
           have HA := hideg hA
           have HX := hideg hX
           have HBb := hideg hb
           generalize x.getD j 0 = y at x1 HP1
           by_cases hy : y = 1099511627776
           · have dy : (y == 1099511627776) = true := by simpa using hy
             have HRn : Hid (AM wr w1.heap.size w1.heap.size n val2 (pcJ g p fr k (j + 1))) := by
               show AM _ _ _ _ _ _
               rw [pcJ_skip (by rw [HP1.out, oneP_skip hy])]; exact HA.out
             clear hA hX hb hinn hy
             go_wp2
             go_roundw
             case rel => exact ⟨j + 1, val2, by omega, by go_num, HRn.out, HX.out, HBb.out⟩
             case measure => simp [intOf]; omega
           · have dy : (y == 1099511627776) = false := by simpa using hy
             obtain ⟨ob, cap, hV, hPc⟩ := pcAt_of_owns hinn
             rw [hV] at a0 hinn
             have HV := hideg hV
             have Hy := hideg hy
             have HI := hideg hinn
             generalize hl : allP g p fr j k = l at *
             have HL := hideg hl
             clear hA hX hb hV hy hinn hl
             rcases last_or l with rfl | ⟨init, f, t', x', rfl⟩
             · clear hPc
               go_wp2_with fail
               go_quiet (fail)
               have hbq : Below wr.heap.size wr (wr.drewN nq) := below_drewN (Below.refl _ wr) nq
               have Aq := HA.out.below hbq
               have a0q := Aq.out hjn
               have x1q := (hbq.cell (p := ⟨xb, j, none⟩) (World.ownsRow.lt HX.out xb rfl).2).trans x1
               rw [HV.out] at a0q
               have Iq := ownsRow_below HI.out hbq
               have HAq := hideg Aq
               have HXq := hideg (ownsRow_below HX.out hbq)
               have HBq := hideg (HBb.out.trans (hbq.mono HBb.out.size))
               have hszq := HBq.out.size
               clear Aq hbq
               generalize wr.drewN nq = wq at *
               go_wp2_with (at_builtin; refine wpList_append_own_at _ rfl _ _ 32 rfl w1.heap.size 35 i0 (.agg #[.int .i64 0, .int .i64 0, .int .i64 0]) 3 24 ((Seq.pu 32).trans Tryz.underlying32) hi hz0 hz1 hz2 rfl (by decide) _ _ _ rfl (World.ownsRow.alloc (w := wq) Iq _) ⟨wq.heap.size, 0, none⟩ 1 1 [.int .i64 k, .int .i64 ((k : Int) + 1), .int .i64 y] rfl rfl (cells_three_new _ _ _ _ _ _ rfl) (by intro u hu; simp at hu; rcases hu with rfl | rfl | rfl <;> rfl) (by unfold maxLen; omega) (by omega) (by simp; omega) ?_; intro v' w5 hown5 hgrow _ hat; have o5 := World.ownsRow.kept (World.ownsRow.alloc (w := wq) HAq.out.own _) hgrow (owns_apart HAq.out.own Iq (by decide)); have fz5 := World.ownsRow.frozenAt o5 j; have c5 := World.ownsRow.cellAt o5 j (by omega); rw [List.getElem?_map, List.getElem?_range hjn] at c5; simp only [Option.map_some] at c5; obtain ⟨b5, cp5, rfl⟩ := own_slice hown5 (by omega))
               have HRn : Hid (AM (w5.setCell ⟨w1.heap.size, j, none⟩ (.slice (some ⟨b5, 0, none⟩) (0 + 1) cp5)) w1.heap.size w1.heap.size n (updF val2 j (.slice (some ⟨b5, 0, none⟩) (0 + 1) cp5)) (pcJ g p fr k (j + 1))) := by
                 show AM _ _ _ _ _ _
                 have h1 := HAq.out.put hjn (.cells #[.int .i64 k, .int .i64 ((k : Int) + 1), .int .i64 y] 35) (p := ((k : Int), (k : Int) + 1, y)) (by rw [HV.out]; exact hgrow) (by rw [pcJ_at, HL.out, enc3_append]; exact hown5) (by rw [HV.out]; exact hat)
                 rw [pcJ_at, HL.out] at h1
                 rw [pcJ_step, HP1.out, oneP_nil Hy.out]
                 exact h1
               have HX5 := hideg (ownsRow_setBox (j := j) (u := .slice (some ⟨b5, 0, none⟩) (0 + 1) cp5) (World.ownsRow.kept (World.ownsRow.alloc (w := wq) HXq.out _) hgrow (owns_apart HXq.out Iq (by decide))) (show some xb ≠ some w1.heap.size from by rcases owns_apart HXq.out HAq.out.own (by decide) with e | e; cases e; exact e))
               have HB5 := hideg (((HBq.out.alloc hszq _).grown hgrow (by simp; omega) (fun q hq => (Iq.lt q hq).1)).setCell (p := ⟨w1.heap.size, j, none⟩) (Nat.le_refl _) (.slice (some ⟨b5, 0, none⟩) (0 + 1) cp5))
               exact ⟨⟨j + 1, _, by omega, by go_num, HRn.out, HX5.out, HB5.out⟩, by simp [intOf]; omega⟩
             · obtain ⟨L, hLn⟩ : ∃ L, L = init.length := ⟨_, rfl⟩
               have hlen : (init ++ [(f, t', x')]).length = L + 1 := by simp [hLn]
               have e3 : enc3 (init ++ [(f, t', x')]) = enc3 init ++ [.int .i64 f, .int .i64 t', .int .i64 x'] := by rw [enc3_append]; rfl
               have le3 : (enc3 init).length = L * 3 := by rw [enc3_length, hLn]
               rw [hlen] at a0 HV HI hll
               obtain ⟨b, c, e⟩ := own_slice HI.out (by omega)
               cases e
               have m1 : wr.cell? ⟨b, L * 3 + 1, none⟩ = some (.int .i64 t') := by
                 rw [World.ownsRow.cellAt HI.out (L * 3 + 1) (by omega), e3, List.getElem?_append_right (by omega), le3, show L * 3 + 1 - L * 3 = 1 from by omega]; rfl
               have m2 : wr.cell? ⟨b, L * 3 + 2, none⟩ = some (.int .i64 x') := by
                 rw [World.ownsRow.cellAt HI.out (L * 3 + 2) (by omega), e3, List.getElem?_append_right (by omega), le3, show L * 3 + 2 - L * 3 = 2 from by omega]; rfl
               have hwL : IntKind.i64.wrap ((L : Int) + 1 - 1) = (L : Int) := by rw [wrap_nr _ (by omega) (by omega)]; omega
               have hLi : (L : Int) < (L : Int) + 1 := by omega
               have HLn := hideg hLn
               have hL100 : L <= 100 := by omega
               have hgt : decide ((0 : Int) < (L : Int) + 1) = true := by rw [decide_eq_true_eq]; omega
               have fzb := World.ownsRow.frozenAt HI.out (L * 3 + 1)
               have HLen := hideg hlen
               clear hPc e3 le3 hlen hLn
               by_cases ht : t' = (k : Int)
               · have dt : (t' == (k : Int)) = true := by simpa using ht
                 by_cases hx : x' = y
                 · have dx : (x' == y) = true := by simpa using hx
                   go_wp2_with fail
                   go_quiet (fail)
                   go_wp2_with fail
                   have hbq : Below wr.heap.size wr (wr.drewN nq) := below_drewN (Below.refl _ wr) nq
                   have Aq := HA.out.below hbq
                   have M1 := Aq.more hjn (l := init) (f := f) (t := t') (x := x') (m := (k : Int) + 1) (by rw [pcJ_at, HL.out]) (b := b) (cap := cap) (by rw [HV.out, pcJ_at, HL.out, HLen.out])
                   rw [<- HLn.out] at M1
                   have M2 : AM ((wr.drewN nq).setCell ⟨b, L * 3 + 1, none⟩ (.int .i64 ((k : Int) + 1))) w1.heap.size w1.heap.size n val2 (pcJ g p fr k (j + 1)) := by
                     rw [pcJ_step, HP1.out, ht, hx, oneP_more Hy.out]
                     rw [hx] at M1
                     exact M1
                   have Xq := ownsRow_below HX.out hbq
                   have hxb : some xb ≠ some b := by
                     rcases owns_apart HX.out HI.out (by decide) with e | e
                     · cases e
                     · exact e
                   exact ⟨⟨j + 1, val2, by omega, by go_num, M2, ownsRow_setBox Xq hxb, (HBb.out.trans (hbq.mono HBb.out.size)).setCell (p := ⟨b, L * 3 + 1, none⟩) (HI.out.lt b rfl).1 _⟩, by simp [intOf]; omega⟩
                 · have dx : (x' == y) = false := by simpa using hx
                   have hneq : ¬ (t' = (k : Int) /\ x' = y) := fun h => hx h.2
                   go_wp2_with fail
                   go_quiet (fail)
                   have hbq : Below wr.heap.size wr (wr.drewN nq) := below_drewN (Below.refl _ wr) nq
                   have Aq := HA.out.below hbq
                   have a0q := Aq.out hjn
                   have x1q := (hbq.cell (p := ⟨xb, j, none⟩) (World.ownsRow.lt HX.out xb rfl).2).trans x1
                   rw [HV.out] at a0q
                   have Iq := ownsRow_below HI.out hbq
                   have HAq := hideg Aq
                   have HXq := hideg (ownsRow_below HX.out hbq)
                   have HBq := hideg (HBb.out.trans (hbq.mono HBb.out.size))
                   have hszq := HBq.out.size
                   clear Aq hbq
                   generalize wr.drewN nq = wq at *
                   go_wp2_with (at_builtin; refine wpList_append_own_at _ rfl _ _ 32 rfl w1.heap.size 35 i0 (.agg #[.int .i64 0, .int .i64 0, .int .i64 0]) 3 24 ((Seq.pu 32).trans Tryz.underlying32) hi hz0 hz1 hz2 rfl (by decide) _ _ _ rfl (World.ownsRow.alloc (w := wq) Iq _) ⟨wq.heap.size, 0, none⟩ 1 1 [.int .i64 k, .int .i64 ((k : Int) + 1), .int .i64 y] rfl rfl (cells_three_new _ _ _ _ _ _ rfl) (by intro u hu; simp at hu; rcases hu with rfl | rfl | rfl <;> rfl) (by unfold maxLen; omega) (by omega) (by simp; omega) ?_; intro v' w5 hown5 hgrow _ hat; have o5 := World.ownsRow.kept (World.ownsRow.alloc (w := wq) HAq.out.own _) hgrow (owns_apart HAq.out.own Iq (by decide)); have fz5 := World.ownsRow.frozenAt o5 j; have c5 := World.ownsRow.cellAt o5 j (by omega); rw [List.getElem?_map, List.getElem?_range hjn] at c5; simp only [Option.map_some] at c5; obtain ⟨b5, cp5, rfl⟩ := own_slice hown5 (by omega))
                   have HRn : Hid (AM (w5.setCell ⟨w1.heap.size, j, none⟩ (.slice (some ⟨b5, 0, none⟩) (L + 1 + 1) cp5)) w1.heap.size w1.heap.size n (updF val2 j (.slice (some ⟨b5, 0, none⟩) (L + 1 + 1) cp5)) (pcJ g p fr k (j + 1))) := by
                     show AM _ _ _ _ _ _
                     have h1 := HAq.out.put hjn (.cells #[.int .i64 k, .int .i64 ((k : Int) + 1), .int .i64 y] 35) (p := ((k : Int), (k : Int) + 1, y)) (by rw [HV.out]; exact hgrow) (by rw [pcJ_at, HL.out, HLen.out, enc3_append]; exact hown5) (by rw [HV.out]; exact hat)
                     rw [pcJ_at, HL.out] at h1
                     rw [pcJ_step, HP1.out, oneP_new Hy.out (fun h => hneq h)]
                     exact h1
                   have HX5 := hideg (ownsRow_setBox (j := j) (u := .slice (some ⟨b5, 0, none⟩) (L + 1 + 1) cp5) (World.ownsRow.kept (World.ownsRow.alloc (w := wq) HXq.out _) hgrow (owns_apart HXq.out Iq (by decide))) (show some xb ≠ some w1.heap.size from by rcases owns_apart HXq.out HAq.out.own (by decide) with e | e; cases e; exact e))
                   have HB5 := hideg (((HBq.out.alloc hszq _).grown hgrow (by simp; omega) (fun q hq => (Iq.lt q hq).1)).setCell (p := ⟨w1.heap.size, j, none⟩) (Nat.le_refl _) (.slice (some ⟨b5, 0, none⟩) (L + 1 + 1) cp5))
                   exact ⟨⟨j + 1, _, by omega, by go_num, HRn.out, HX5.out, HB5.out⟩, by simp [intOf]; omega⟩
               · have dt : (t' == (k : Int)) = false := by simpa using ht
                 have hneq : ¬ (t' = (k : Int) /\ x' = y) := fun h => ht h.1
                 go_wp2_with fail
                 go_quiet (fail)
                 have hbq : Below wr.heap.size wr (wr.drewN nq) := below_drewN (Below.refl _ wr) nq
                 have Aq := HA.out.below hbq
                 have a0q := Aq.out hjn
                 have x1q := (hbq.cell (p := ⟨xb, j, none⟩) (World.ownsRow.lt HX.out xb rfl).2).trans x1
                 rw [HV.out] at a0q
                 have Iq := ownsRow_below HI.out hbq
                 have HAq := hideg Aq
                 have HXq := hideg (ownsRow_below HX.out hbq)
                 have HBq := hideg (HBb.out.trans (hbq.mono HBb.out.size))
                 have hszq := HBq.out.size
                 clear Aq hbq
                 generalize wr.drewN nq = wq at *
                 go_wp2_with (at_builtin; refine wpList_append_own_at _ rfl _ _ 32 rfl w1.heap.size 35 i0 (.agg #[.int .i64 0, .int .i64 0, .int .i64 0]) 3 24 ((Seq.pu 32).trans Tryz.underlying32) hi hz0 hz1 hz2 rfl (by decide) _ _ _ rfl (World.ownsRow.alloc (w := wq) Iq _) ⟨wq.heap.size, 0, none⟩ 1 1 [.int .i64 k, .int .i64 ((k : Int) + 1), .int .i64 y] rfl rfl (cells_three_new _ _ _ _ _ _ rfl) (by intro u hu; simp at hu; rcases hu with rfl | rfl | rfl <;> rfl) (by unfold maxLen; omega) (by omega) (by simp; omega) ?_; intro v' w5 hown5 hgrow _ hat; have o5 := World.ownsRow.kept (World.ownsRow.alloc (w := wq) HAq.out.own _) hgrow (owns_apart HAq.out.own Iq (by decide)); have fz5 := World.ownsRow.frozenAt o5 j; have c5 := World.ownsRow.cellAt o5 j (by omega); rw [List.getElem?_map, List.getElem?_range hjn] at c5; simp only [Option.map_some] at c5; obtain ⟨b5, cp5, rfl⟩ := own_slice hown5 (by omega))
                 have HRn : Hid (AM (w5.setCell ⟨w1.heap.size, j, none⟩ (.slice (some ⟨b5, 0, none⟩) (L + 1 + 1) cp5)) w1.heap.size w1.heap.size n (updF val2 j (.slice (some ⟨b5, 0, none⟩) (L + 1 + 1) cp5)) (pcJ g p fr k (j + 1))) := by
                   show AM _ _ _ _ _ _
                   have h1 := HAq.out.put hjn (.cells #[.int .i64 k, .int .i64 ((k : Int) + 1), .int .i64 y] 35) (p := ((k : Int), (k : Int) + 1, y)) (by rw [HV.out]; exact hgrow) (by rw [pcJ_at, HL.out, HLen.out, enc3_append]; exact hown5) (by rw [HV.out]; exact hat)
                   rw [pcJ_at, HL.out] at h1
                   rw [pcJ_step, HP1.out, oneP_new Hy.out (fun h => hneq h)]
                   exact h1
                 have HX5 := hideg (ownsRow_setBox (j := j) (u := .slice (some ⟨b5, 0, none⟩) (L + 1 + 1) cp5) (World.ownsRow.kept (World.ownsRow.alloc (w := wq) HXq.out _) hgrow (owns_apart HXq.out Iq (by decide))) (show some xb ≠ some w1.heap.size from by rcases owns_apart HXq.out HAq.out.own (by decide) with e | e; cases e; exact e))
                 have HB5 := hideg (((HBq.out.alloc hszq _).grown hgrow (by simp; omega) (fun q hq => (Iq.lt q hq).1)).setCell (p := ⟨w1.heap.size, j, none⟩) (Nat.le_refl _) (.slice (some ⟨b5, 0, none⟩) (L + 1 + 1) cp5))
                 exact ⟨⟨j + 1, _, by omega, by go_num, HRn.out, HX5.out, HB5.out⟩, by simp [intOf]; omega⟩
         · have hje : n = j := by omega
           subst hje
           have HRn : Hid (AM wr w1.heap.size w1.heap.size n val2 (fun v => allP g p fr v (k + 1))) := hA.congr (fun v hv => by unfold pcJ; rw [if_pos hv])
           have HBb := hideg hb
           have hkw : IntKind.i64.wrap ((k : Int) + 1) = (k : Int) + 1 := wrap_nr _ (by omega) (by omega)
           clear hA hX hb
           go_wp2
           go_roundw
           case rel => exact ⟨k + 1, val2, by omega, by go_num, by first | (rw [HR2.out]; done) | rw [HRk.out], HRn.out, HBb.out⟩
           case measure => simp [intOf]; omega
   · have hke : H = k := by omega
     subst hke
     clear BR hA hb
     go_wp2
     go_ret2
     exact ⟨w1.heap.size, val, rfl, HA.out.base HB1.out.bel.size, HF.out⟩
theorem Near_three (B : Nat) (x y z : Int) (w : World) (hB : B < w.heap.size) (c0 : w.cell? ⟨B, 0, none⟩ = some (.int .i64 x)) (c1 : w.cell? ⟨B, 1, none⟩ = some (.int .i64 y)) (c2 : w.cell? ⟨B, 2, none⟩ = some (.int .i64 z)) :
   Calls Seq.prog 87 #[.slice (some ⟨B, 0, none⟩) 3 3] w fun e w' => e = .returned (.bool (nrB x && (nrB y && nrB z))) /\ w' = w := by
 have h := Near_any (some ⟨B, 0, none⟩) 3 [x, y, z] w (.inr ⟨B, 0, rfl, hB, fun j hj => by
   match j, hj with
   | 0, _ => exact c0
   | 1, _ => exact c1
   | 2, _ => exact c2⟩) (by simp)
 simpa using h
def nr3 (x y z : Int) : Bool := nrB x && (nrB y && nrB z)
theorem nr3_iff (p : Int × Int × Int) : nr3 p.1 p.2.1 p.2.2 = true ↔ NearP p := by
 unfold nr3 NearP
 rw [Bool.and_eq_true, Bool.and_eq_true, nrB_iff, nrB_iff, nrB_iff]
theorem pnear_any (x y z : Int) (w : World) :
   Calls Seq.prog 69 #[.agg #[.int .i64 x, .int .i64 y, .int .i64 z]] w fun e w' => e = .returned (.bool (nr3 x y z)) /\ Below w.heap.size w w' := by
 go_enter Seq.func69, Tryz.ntmps69
 go_wp2_with fail
 refine (Near_three (w.heap.size + 1) x y z _ (by simp) (by simp) (by simp) (by simp)).mono ?_
 rintro e w1 ⟨rfl, rfl⟩
 go_wp2
 go_ret
 exact ⟨rfl, ptw (pal _ _) (pal _ _)⟩
def inB (a b x : Int) : Bool := decide (a <= x) && decide (x < b)
theorem phas_any (a b v t : Int) (w : World) :
   Calls Seq.prog 73 #[.agg #[.int .i64 a, .int .i64 b, .int .i64 v], .int .i64 t] w fun e w' => e = .returned (.bool (inB a b t)) /\ Below w.heap.size w w' := by
 have HB : Hid (∀ o, Below w.heap.size w (w.alloc o)) := fun o => pal w o
 by_cases g1 : a <= t
 · by_cases g2 : t < b
   · have HC : Hid (inB a b t = true) := by show _ = _; unfold inB; simp [g1, g2]
     go_enter Seq.func73, Tryz.ntmps73
     go_wp2
     go_ret
     exact ⟨ret_bool HC.out.symm, HB.out _⟩
   · have HC : Hid (inB a b t = false) := by show _ = _; unfold inB; simp [g2]
     go_enter Seq.func73, Tryz.ntmps73
     go_wp2
     go_ret
     exact ⟨ret_bool HC.out.symm, HB.out _⟩
 · have HC : Hid (inB a b t = false) := by show _ = _; unfold inB; simp [g1]
   go_enter Seq.func73, Tryz.ntmps73
   go_wp2
   go_ret
   exact ⟨ret_bool HC.out.symm, HB.out _⟩
def flB (b v a' v' : Int) : Bool := decide (b < a') || (b == a' && v != v')
theorem follows_any (a b v a' b' v' : Int) (w : World) :
   Calls Seq.prog 85 #[.agg #[.int .i64 a, .int .i64 b, .int .i64 v], .agg #[.int .i64 a', .int .i64 b', .int .i64 v']] w fun e w' => e = .returned (.bool (flB b v a' v')) /\ Below w.heap.size w w' := by
 have HB : Hid (∀ o o', Below w.heap.size w ((w.alloc o).alloc o')) := fun o o' => ptw (pal w o) (pal _ o')
 by_cases g1 : b < a'
 · have HC : Hid (flB b v a' v' = true) := by show _ = _; unfold flB; simp [g1]
   go_enter Seq.func85, Tryz.ntmps85
   go_wp2
   go_ret
   exact ⟨ret_bool HC.out.symm, HB.out _ _⟩
 · by_cases g2 : b = a'
   · by_cases g3 : v = v'
     · have HC : Hid (flB b v a' v' = false) := by show _ = _; unfold flB; simp [g2, g3]
       subst g2
       subst g3
       go_enter Seq.func85, Tryz.ntmps85
       go_wp2
       go_ret
       exact ⟨ret_bool (by first | (rw [HC.out]; simp; done) | rw [HC.out]), HB.out _ _⟩
     · have HC : Hid (flB b v a' v' = true) := by show _ = _; unfold flB; simp [g2, g3]
       have e3 : (v != v') = true := by simp [g3]
       subst g2
       go_enter Seq.func85, Tryz.ntmps85
       go_wp2
       go_ret
       exact ⟨ret_bool (by first | (rw [HC.out]; simp [e3]; done) | rw [HC.out]), HB.out _ _⟩
   · have HC : Hid (flB b v a' v' = false) := by show _ = _; unfold flB; simp [g1, g2]
     have e2 : (b == a') = false := by simp [g2]
     go_enter Seq.func85, Tryz.ntmps85
     go_wp2
     go_ret
     exact ⟨ret_bool (by rw [HC.out]), HB.out _ _⟩
theorem getD3 {m : List (Int × Int × Int)} {k : Nat} (h : k < m.length) : m.getD k (0, 0, 0) = m[k] := by simp [List.getD_eq_getElem?_getD, List.getElem?_eq_getElem h]
theorem PcAt.get {w : World} {b off : Nat} {m : List (Int × Int × Int)} {k : Nat} (hk : k < m.length) (hc : ∀ j, j < m.length -> w.cell? ⟨b, off + j * 3, none⟩ = some (.int .i64 (m.getD j (0, 0, 0)).1) /\ w.cell? ⟨b, off + j * 3 + 1, none⟩ = some (.int .i64 (m.getD j (0, 0, 0)).2.1) /\ w.cell? ⟨b, off + j * 3 + 2, none⟩ = some (.int .i64 (m.getD j (0, 0, 0)).2.2)) :
   w.cell? ⟨b, off + k * 3, none⟩ = some (.int .i64 m[k].1) /\ w.cell? ⟨b, off + k * 3 + 1, none⟩ = some (.int .i64 m[k].2.1) /\ w.cell? ⟨b, off + k * 3 + 2, none⟩ = some (.int .i64 m[k].2.2) := by
 have := hc k hk
 rwa [getD3 hk] at this
set_option maxHeartbeats 1000000 in
theorem PAt_any (ao : Option Addr) (cap : Nat) (m : List (Int × Int × Int)) (t : Int) (w : World) (hl : PcAt w ao m) (hn : m.length <= 9223372036854775807) :
   Calls Seq.prog 74 #[.slice ao m.length cap, .int .i64 t] w fun e w' => e = .returned (.tuple #[.int .i64 ((tel m t).getD 0), .bool (tel m t).isSome]) /\ Below w.heap.size w w' := by
 go_enter Seq.func74, Tryz.ntmps74
 go_wp2
 go_loopw [10] (fun i wr => ∃ k : Nat, k <= m.length /\ i = .int .i64 k /\ tel (m.take k) t = none /\ Below w.heap.size w wr) (fun i _ => m.length - (intOf i).toNat)
 case atStart => exact ⟨0, Nat.zero_le _, rfl, rfl, Below.refl _ _⟩
 case round =>
   obtain ⟨k, hk, rfl, hh, hb⟩ := hrel
   have HH : Hid (tel (m.take k) t = none) := hh
   clear hh
   by_cases hlt : k < m.length
   · rcases hl.below hb with h0 | ⟨b, off, rfl, hbw, hc⟩
     · subst h0; simp at hlt
     obtain ⟨c0, c1, c2⟩ := PcAt.get hlt hc
     have HB : Hid (Below w.heap.size w wr) := hb
     clear hc hl hb
     go_wp2_with fail
     refine (phas_any m[k].1 m[k].2.1 m[k].2.2 t _).mono ?_
     rintro e w1 ⟨rfl, hb1⟩
     have hb' : Below w.heap.size w w1 := ptw (ptw HB.out (pal _ _)) hb1
     have d2 := hb1.cell (p := ⟨wr.heap.size, 2, none⟩) (by simp)
     have d2 : w1.cell? ⟨wr.heap.size, 2, none⟩ = some (.int .i64 m[k].2.2) := d2.trans (by simp)
     clear hb1 c0 c1 c2
     cases hp : inP m[k] t with
     | true =>
       have e1 : inB m[k].1 m[k].2.1 t = true := hp
       have HC : Hid (tel m t = some m[k].2.2) := tel_take_yes hlt HH.out hp
       rw [e1]
       clear hp e1
       go_wp2
       go_ret2
       exact ⟨by rw [HC.out]; rfl, hb'⟩
     | false =>
       have e1 : inB m[k].1 m[k].2.1 t = false := hp
       have HC : Hid (tel (m.take (k + 1)) t = none) := tel_take_no hlt HH.out hp
       rw [e1]
       clear hp e1
       go_wp2
       go_roundw
       case rel => exact ⟨k + 1, by omega, by go_num, HC.out, hb'⟩
       case measure => simp [intOf]; omega
   · have hkl : k = m.length := by omega
     subst hkl
     have HC : Hid (tel m t = none) := by have := HH.out; rwa [List.take_length] at this
     go_wp2
     go_ret2
     exact ⟨by rw [HC.out]; rfl, hb⟩
structure Kp (w wr w1 : World) (b o : Nat) (p q : Int × Int × Int) : Prop where
 k0 : w1.cell? ⟨wr.heap.size, 0, none⟩ = some (.int .i64 p.1)
 k1 : w1.cell? ⟨wr.heap.size, 1, none⟩ = some (.int .i64 p.2.1)
 k2 : w1.cell? ⟨wr.heap.size, 2, none⟩ = some (.int .i64 p.2.2)
 q0 : w1.cell? ⟨b, o, none⟩ = some (.int .i64 q.1)
 q1 : w1.cell? ⟨b, o + 1, none⟩ = some (.int .i64 q.2.1)
 q2 : w1.cell? ⟨b, o + 2, none⟩ = some (.int .i64 q.2.2)
 bel : Below w.heap.size w w1
 sz : wr.heap.size + 1 <= w1.heap.size
 lt : b < wr.heap.size
theorem kp_start {w wr w1 : World} {b o : Nat} {p q : Int × Int × Int} {T : Nat} (hb : Below w.heap.size w wr) (hbw : b < wr.heap.size) (c0 : wr.cell? ⟨b, o, none⟩ = some (.int .i64 q.1)) (c1 : wr.cell? ⟨b, o + 1, none⟩ = some (.int .i64 q.2.1)) (c2 : wr.cell? ⟨b, o + 2, none⟩ = some (.int .i64 q.2.2))
   (h : Below (wr.alloc (.cells #[.int .i64 p.1, .int .i64 p.2.1, .int .i64 p.2.2] T)).heap.size (wr.alloc (.cells #[.int .i64 p.1, .int .i64 p.2.1, .int .i64 p.2.2] T)) w1) : Kp w wr w1 b o p q := by
 have hA : Below wr.heap.size wr w1 := ptw (pal _ _) h
 refine ⟨(h.cell (p := ⟨wr.heap.size, 0, none⟩) (by simp)).trans (by simp), (h.cell (p := ⟨wr.heap.size, 1, none⟩) (by simp)).trans (by simp), (h.cell (p := ⟨wr.heap.size, 2, none⟩) (by simp)).trans (by simp), ?_, ?_, ?_, ptw hb hA, by have := h.size; simpa using this, hbw⟩
 · rw [hA.cell (p := ⟨b, o, none⟩) hbw]; exact c0
 · rw [hA.cell (p := ⟨b, o + 1, none⟩) hbw]; exact c1
 · rw [hA.cell (p := ⟨b, o + 2, none⟩) hbw]; exact c2
def ext (out : List (Int × Int × Int)) (p : Int × Int × Int) : List (Int × Int × Int) :=
 match out.getLast? with
 | none => out ++ [p]
 | some q => if folB q p then out ++ [p] else out.dropLast ++ [(q.1, p.2.1, q.2.2)]
theorem ext_nil (p : Int × Int × Int) : ext [] p = [] ++ [p] := rfl
theorem ext_yes {o : List (Int × Int × Int)} {q p : Int × Int × Int} (h : folB q p = true) : ext (o ++ [q]) p = o ++ [q] ++ [p] := by unfold ext; simp [h]
theorem ext_no {o : List (Int × Int × Int)} {q p : Int × Int × Int} (h : folB q p = false) : ext (o ++ [q]) p = o ++ [(q.1, p.2.1, q.2.2)] := by unfold ext; simp [h]
set_option maxRecDepth 100000 in
set_option maxHeartbeats 4000000 in
theorem extend_any (base : Nat) (v : Value) (out : List (Int × Int × Int)) (p : Int × Int × Int) (w : World) (hown : w.ownsRow base 35 3 v out.length (enc3 out)) (hbase : base <= w.heap.size) (hlen : out.length <= 1000) :
   Calls Seq.prog 91 #[v, .agg #[.int .i64 p.1, .int .i64 p.2.1, .int .i64 p.2.2]] w fun e w' => ∃ v', e = .returned v' /\ w'.ownsRow base 35 3 v' (ext out p).length (enc3 (ext out p)) /\ Below base w w' := by
 obtain ⟨i0, hi, hz0, hz1, hz2⟩ := info_parts Tryz.infoPiece
 obtain ⟨vo, vc, hve, _⟩ := pcAt_of_owns hown
 rcases List.eq_nil_or_concat out with h0 | ⟨o, q, h0⟩
 · subst h0
   subst hve
   rw [ext_nil]
   simp only [List.length_nil] at hown
   go_enter Seq.func91, Tryz.ntmps91
   go_wp2
   go_quiet (fail)
   go_wp2_with (at_builtin; refine wpList_append_own _ rfl _ _ 32 rfl base 35 i0 (.agg #[.int .i64 0, .int .i64 0, .int .i64 0]) 3 24 ((Seq.pu 32).trans Tryz.underlying32) hi hz0 hz1 hz2 rfl (by decide) _ _ _ rfl (World.ownsRow.alloc (World.ownsRow.alloc (w := w) hown _) _) ⟨w.heap.size + 1, 0, none⟩ 1 1 [.int .i64 p.1, .int .i64 p.2.1, .int .i64 p.2.2] rfl rfl ?c1 ?c2 ?c3 ?c4 ?c5 ?_)
   case c1 => exact cells_three_new _ _ _ _ _ _ (by simp)
   case c2 => intro u hu; simp at hu; rcases hu with rfl | rfl | rfl <;> rfl
   case c3 => unfold maxLen; omega
   case c4 => omega
   case c5 => simp; omega
   intro v' w1 hown' hgrow _
   have R : w1.ownsRow base 35 3 v' ([] ++ [p]).length (enc3 ([] ++ [p])) := by
     rw [enc3_append, List.length_append]; exact hown'
   have hb' : Below base w w1 := ((below_drewN ((Below.refl base w).alloc hbase _) _).alloc (by simp; omega) _).grown hgrow (by simp; omega) (fun j hj => (hown.lt j hj).1)
   clear hown hown' hgrow
   go_wp2
   go_ret
   exact ⟨_, rfl, R, hb'⟩
 · rw [List.concat_eq_append] at h0
   have hom : out.length = o.length + 1 := by rw [h0]; simp
   have HO : Hid (out = o ++ [q]) := h0
   have fp := flat3_getD out o.length (by omega)
   have hgp : out.getD o.length (0, 0, 0) = q := by rw [h0]; simp
   rw [hgp] at fp
   rcases hown.2 with ⟨_, h9⟩ | ⟨g, vc', cur, e9, hbs, hh, h1, h2, h4, h5⟩
   · omega
   have hown' := hown
   rw [e9, hom] at hown'
   have hgl := hown'.lt g rfl
   have cq0 : w.cell? ⟨g, o.length * 3, none⟩ = some (.int .i64 q.1) := by rw [hown'.cellAt (o.length * 3) (by omega)]; simp [enc3, fp.1]
   have cq1 : w.cell? ⟨g, o.length * 3 + 1, none⟩ = some (.int .i64 q.2.1) := by rw [hown'.cellAt (o.length * 3 + 1) (by omega)]; simp [enc3, fp.2.1]
   have cq2 : w.cell? ⟨g, o.length * 3 + 2, none⟩ = some (.int .i64 q.2.2) := by rw [hown'.cellAt (o.length * 3 + 2) (by omega)]; simp [enc3, fp.2.2]
   have HOM : Hid (out.length = o.length + 1) := hom
   rw [e9, hom]
   rw [hom] at hlen
   have HOW : Hid (w.ownsRow base 35 3 (.slice (some ⟨g, 0, none⟩) (o.length + 1) vc') (o.length + 1) (enc3 out)) := hown'
   have hfz := fun W (h : Below w.heap.size w W) => (ownsRow_below hown' h).frozenAt (o.length * 3 + 1)
   have HFZ : Hid (∀ W, Below w.heap.size w W -> W.frozen? ⟨g, o.length * 3 + 1, none⟩ = false) := hfz
   clear e9 h0 hgp fp hh h4 h5 hom hown hown' hve hfz h1 h2
   generalize hm : o.length = m at *
   have HM : Hid (o.length = m) := hm
   clear hm
   have hm1 : (0 : Int) <= (m : Int) := by omega
   have hm2 : (m : Int) < (m : Int) + 1 := by omega
   have HK : Hid (∀ w1, Below (w.alloc (.cells #[.int .i64 p.1, .int .i64 p.2.1, .int .i64 p.2.2] 35)).heap.size (w.alloc (.cells #[.int .i64 p.1, .int .i64 p.2.1, .int .i64 p.2.2] 35)) w1 -> Kp w w w1 g (m * 3) p q) := fun w1 h => kp_start (Below.refl _ _) hgl.2 cq0 cq1 cq2 h
   have HFol : Hid (∀ W, Calls Seq.prog 85 #[.agg #[.int .i64 q.1, .int .i64 q.2.1, .int .i64 q.2.2], .agg #[.int .i64 p.1, .int .i64 p.2.1, .int .i64 p.2.2]] W fun e w' => e = .returned (.bool (folB q p)) /\ Below W.heap.size W w') := fun W => follows_any q.1 q.2.1 q.2.2 p.1 p.2.1 p.2.2 W
   cases hf : folB q p with
   | true =>
     have HE : Hid (ext out p = out ++ [p]) := by show _ = _; rw [HO.out, ext_yes hf]
     rw [hf] at HFol
     clear hf
     go_enter Seq.func91, Tryz.ntmps91
     go_wp2_with fail
     generalize w.alloc (.cells #[.int .i64 p.1, .int .i64 p.2.1, .int .i64 p.2.2] 35) = W0 at HK ⊢
     have f0 : ∀ s : HeldIn W0, s.w.cell? ⟨w.heap.size, 0, none⟩ = some (.int .i64 p.1) := fun s => (HK.out _ s.h).k0
     have f1 : ∀ s : HeldIn W0, s.w.cell? ⟨w.heap.size, 1, none⟩ = some (.int .i64 p.2.1) := fun s => (HK.out _ s.h).k1
     have f2 : ∀ s : HeldIn W0, s.w.cell? ⟨w.heap.size, 2, none⟩ = some (.int .i64 p.2.2) := fun s => (HK.out _ s.h).k2
     have q0 : ∀ s : HeldIn W0, s.w.cell? ⟨g, m * 3, none⟩ = some (.int .i64 q.1) := fun s => (HK.out _ s.h).q0
     have q1 : ∀ s : HeldIn W0, s.w.cell? ⟨g, m * 3 + 1, none⟩ = some (.int .i64 q.2.1) := fun s => (HK.out _ s.h).q1
     have q2 : ∀ s : HeldIn W0, s.w.cell? ⟨g, m * 3 + 2, none⟩ = some (.int .i64 q.2.2) := fun s => (HK.out _ s.h).q2
     have hne : Nonempty (HeldIn W0) := ⟨⟨W0, Below.refl _ _⟩⟩
     refine wp_region_held W0 (Below.refl _ _) (by kernel_rfl) (by kernel_rfl) ?_
     repeat (go_big_quiet_step ((go_at_call 85; exact held_of (HFol.out _))))
     refine wpQuiet_nil ?_
     rintro _ ⟨s, rfl⟩
     have KK := HK.out _ s.h
     have hbs := KK.bel
     have k0 := KK.k0
     have k1 := KK.k1
     have k2 := KK.k2
     generalize s.w = w1 at hbs k0 k1 k2 ⊢
     have hows := ownsRow_below HOW.out hbs
     have hsz := hbs.size
     clear f0 f1 f2 q0 q1 q2 KK hne cq0 cq1 cq2 HK HFol HFZ
     go_wp2_with (at_builtin; refine wpList_append_own _ rfl _ _ 32 rfl base 35 i0 (.agg #[.int .i64 0, .int .i64 0, .int .i64 0]) 3 24 ((Seq.pu 32).trans Tryz.underlying32) hi hz0 hz1 hz2 rfl (by decide) _ _ _ rfl (World.ownsRow.alloc (w := w1) hows _) ⟨w1.heap.size, 0, none⟩ 1 1 [.int .i64 p.1, .int .i64 p.2.1, .int .i64 p.2.2] rfl rfl ?c1 ?c2 ?c3 ?c4 ?c5 ?_)
     case c1 => exact cells_three_new _ _ _ _ _ _ (by simp)
     case c2 => intro u hu; simp at hu; rcases hu with rfl | rfl | rfl <;> rfl
     case c3 => unfold maxLen; omega
     case c4 => omega
     case c5 => simp; omega
     intro v' w2 hown2 hgrow _
     have R : w2.ownsRow base 35 3 v' (ext out p).length (enc3 (ext out p)) := by
       rw [HE.out, enc3_append, List.length_append, HOM.out]; exact hown2
     have hb' : Below base w w2 := ((hbs.mono hbase).alloc (by omega) _).grown hgrow (by simp; omega) (fun j hj => (hows.lt j hj).1)
     clear hows hown2 hgrow
     go_wp2
     go_ret
     exact ⟨_, rfl, R, hb'⟩
   | false =>
     have HE : Hid (ext out p = o ++ [(q.1, p.2.1, q.2.2)]) := by show _ = _; rw [HO.out, ext_no hf]
     rw [hf] at HFol
     clear hf
     go_enter Seq.func91, Tryz.ntmps91
     go_wp2_with fail
     generalize w.alloc (.cells #[.int .i64 p.1, .int .i64 p.2.1, .int .i64 p.2.2] 35) = W0 at HK ⊢
     have f0 : ∀ s : HeldIn W0, s.w.cell? ⟨w.heap.size, 0, none⟩ = some (.int .i64 p.1) := fun s => (HK.out _ s.h).k0
     have f1 : ∀ s : HeldIn W0, s.w.cell? ⟨w.heap.size, 1, none⟩ = some (.int .i64 p.2.1) := fun s => (HK.out _ s.h).k1
     have f2 : ∀ s : HeldIn W0, s.w.cell? ⟨w.heap.size, 2, none⟩ = some (.int .i64 p.2.2) := fun s => (HK.out _ s.h).k2
     have q0 : ∀ s : HeldIn W0, s.w.cell? ⟨g, m * 3, none⟩ = some (.int .i64 q.1) := fun s => (HK.out _ s.h).q0
     have q1 : ∀ s : HeldIn W0, s.w.cell? ⟨g, m * 3 + 1, none⟩ = some (.int .i64 q.2.1) := fun s => (HK.out _ s.h).q1
     have q2 : ∀ s : HeldIn W0, s.w.cell? ⟨g, m * 3 + 2, none⟩ = some (.int .i64 q.2.2) := fun s => (HK.out _ s.h).q2
     have hne : Nonempty (HeldIn W0) := ⟨⟨W0, Below.refl _ _⟩⟩
     refine wp_region_held W0 (Below.refl _ _) (by kernel_rfl) (by kernel_rfl) ?_
     repeat (go_big_quiet_step ((go_at_call 85; exact held_of (HFol.out _))))
     refine wpQuiet_nil ?_
     rintro _ ⟨s, rfl⟩
     have KK := HK.out _ s.h
     have hbs := KK.bel
     have k1 := KK.k1
     have c1 := KK.q1
     generalize s.w = w1 at hbs k1 c1 ⊢
     have hows := ownsRow_below HOW.out hbs
     have fz := HFZ.out w1 hbs
     have hsz := hbs.size
     have HR : Hid ((w1.setCell ⟨g, m * 3 + 1, none⟩ (.int .i64 p.2.1)).ownsRow base 35 3 (.slice (some ⟨g, 0, none⟩) (m + 1) vc') (ext out p).length (enc3 (ext out p)) /\ Below base w (w1.setCell ⟨g, m * 3 + 1, none⟩ (.int .i64 p.2.1))) := by
       have hst := (hows.stored (m * 3 + 1) (.int .i64 p.2.1)).1
       have he : (enc3 out).set (m * 3 + 1) (.int .i64 p.2.1) = enc3 (o ++ [(q.1, p.2.1, q.2.2)]) := by
         rw [HO.out, enc3_append, enc3_append, List.set_append_right _ _ (by rw [enc3_length, HM.out]; omega), enc3_length, HM.out, show m * 3 + 1 - m * 3 = 1 by omega]
         rfl
       rw [he] at hst
       have hlen' : (o ++ [(q.1, p.2.1, q.2.2)]).length = m + 1 := by simp [HM.out]
       rw [HE.out, hlen']
       exact ⟨hst, (hbs.mono hbase).setCell hgl.1 _⟩
     clear f0 f1 f2 q0 q1 q2 KK hne cq0 cq1 cq2 HK HFol hows
     go_wp2
     go_ret
     exact ⟨_, rfl, HR.out.1, HR.out.2⟩
def FitIs (out : List (Int × Int × Int)) (n : Int) (r : List (Int × Int × Int)) : Prop :=
 (¬ (∀ q ∈ out, NearP q) /\ n = 5 /\ r = []) \/ ((∀ q ∈ out, NearP q) /\ 200 < out.length /\ n = 2 /\ r = []) \/ ((∀ q ∈ out, NearP q) /\ out.length <= 200 /\ n = 0 /\ r = out)
theorem near_take_succ {m : List (Int × Int × Int)} {k : Nat} (hk : k < m.length) (h : ∀ q ∈ m.take k, NearP q) (h1 : NearP m[k]) : ∀ q ∈ m.take (k + 1), NearP q := by
 intro q hq
 rw [take_succ_get m k hk, List.mem_append, List.mem_singleton] at hq
 rcases hq with hq | rfl
 · exact h q hq
 · exact h1
set_option maxRecDepth 100000 in
set_option maxHeartbeats 2000000 in
theorem fit_any (base : Nat) (v : Value) (out : List (Int × Int × Int)) (w : World) (hown : w.ownsRow base 35 3 v out.length (enc3 out)) (hlen : out.length <= 1000) :
   Calls Seq.prog 92 #[v] w fun e w' => ∃ n r v', FitIs out n r /\ e = .returned (.tuple #[v', .int .i64 n]) /\ w'.ownsRow base 35 3 v' r.length (enc3 r) /\ Below w.heap.size w w' := by
 obtain ⟨vo, vc, hve, hl⟩ := pcAt_of_owns hown
 subst hve
 have HOW : Hid (w.ownsRow base 35 3 (.slice vo out.length vc) out.length (enc3 out)) := hown
 have HNil : Hid (∀ W : World, W.ownsRow base 35 3 (.slice none 0 0) ([] : List (Int × Int × Int)).length (enc3 [])) := fun W => World.ownsRow_nil _ _ _ _
 clear hown
 go_enter Seq.func92, Tryz.ntmps92
 go_wp2
 go_loopw [8] (fun i wr => ∃ k : Nat, k <= out.length /\ i = .int .i64 k /\ (∀ q ∈ out.take k, NearP q) /\ Below w.heap.size w wr) (fun i _ => out.length - (intOf i).toNat)
 case atStart => exact ⟨0, Nat.zero_le _, rfl, fun q hq => by simp at hq, Below.refl _ _⟩
 case round =>
   obtain ⟨k, hk, rfl, hn, hb⟩ := hrel
   have HN : Hid (∀ q ∈ out.take k, NearP q) := hn
   clear hn
   by_cases hlt : k < out.length
   · rcases hl.below hb with h0 | ⟨b, off, rfl, hbw, hc⟩
     · subst h0; simp at hlt
     obtain ⟨c0, c1, c2⟩ := PcAt.get hlt hc
     have hnr := fun W => pnear_any out[k].1 out[k].2.1 out[k].2.2 W
     have HB : Hid (∀ o w1, Below (wr.alloc o).heap.size (wr.alloc o) w1 -> Below w.heap.size w w1) := fun o w1 h => ptw (ptw hb (pal _ _)) h
     clear hc hl hb
     by_cases n1 : NearP out[k]
     · have HS : Hid (∀ q ∈ out.take (k + 1), NearP q) := near_take_succ hlt HN.out n1
       rw [(nr3_iff _).2 n1] at hnr
       clear n1
       go_wp2_with fail
       refine (hnr _).mono ?_
       rintro e w1 ⟨rfl, hb1⟩
       have hb' := HB.out _ _ hb1
       clear hb1
       go_wp2
       go_roundw
       case rel => exact ⟨k + 1, by omega, by go_num, HS.out, hb'⟩
       case measure => simp [intOf]; omega
     · have HC : Hid (FitIs out 5 []) := .inl ⟨fun h => n1 (h _ (List.getElem_mem hlt)), rfl, rfl⟩
       rw [show nr3 out[k].1 out[k].2.1 out[k].2.2 = false from by rw [<- Bool.not_eq_true, nr3_iff]; exact n1] at hnr
       clear n1
       go_wp2_with fail
       refine (hnr _).mono ?_
       rintro e w1 ⟨rfl, hb1⟩
       have hb' := HB.out _ _ hb1
       clear hb1
       go_wp2
       go_ret2
       exact ⟨_, _, _, HC.out, rfl, HNil.out _, hb'⟩
   · have hkl : k = out.length := by omega
     have hall : ∀ q ∈ out, NearP q := by have := HN.out; rwa [hkl, List.take_length] at this
     have HA : Hid (∀ q ∈ out, NearP q) := hall
     clear hall
     subst hkl
     by_cases h200 : 200 < out.length
     · have HC : Hid (FitIs out 2 []) := .inr (.inl ⟨HA.out, h200, rfl, rfl⟩)
       go_wp2
       go_ret2
       exact ⟨_, _, _, HC.out, rfl, HNil.out _, hb⟩
     · have HC : Hid (FitIs out 0 out) := .inr (.inr ⟨HA.out, by omega, rfl, rfl⟩)
       have HR : Hid (wr.ownsRow base 35 3 (.slice vo out.length vc) out.length (enc3 out)) := ownsRow_below HOW.out hb
       go_wp2
       go_ret2
       exact ⟨_, _, _, HC.out, rfl, HR.out, hb⟩
end Go.Proofs.YthgelfnflafoiabGreat.Q
namespace Go.Proofs.YthgelfnflafoiabGreat
open Sim (Seq.prog)
open Go.Shelf
def Seq.sortInt_ren : Go.Shelf.Ren := ⟨fun | 189 => 96 | 125 => 102 | 257 => 101 | 128 => 113 | 129 => 114 | 294 => 104 | 295 => 105 | 296 => 106 | 297 => 107 | 298 => 108 | 299 => 109 | 216 => 110 | 300 => 111 | 301 => 112 | 328 => 115 | 329 => 116 | 330 => 117 | 331 => 118 | 332 => 119 | 215 => 120 | 343 => 121 | n => n, fun | 28 => 43 | 3 => 3 | 46 => 112 | 0 => 0 | 51 => 88 | 53 => 85 | 4 => 4 | 183 => 162 | 182 => 161 | 131 => 131 | 5 => 5 | 9 => 9 | 218 => 170 | 222 => 173 | 228 => 175 | 229 => 176 | n => n, fun | n => n⟩
theorem Seq.sortInt : Go.Proofs.Lays.n189 Seq.prog Seq.sortInt_ren := {
  mixed := by kernel_rfl
  f125 := Seq.func102.trans (congrArg some (by kernel_rfl))
  f128 := Seq.func113.trans (congrArg some (by kernel_rfl))
  f129 := Seq.func114.trans (congrArg some (by kernel_rfl))
  f189 := Seq.func96.trans (congrArg some (by kernel_rfl))
  f215 := Seq.func120.trans (congrArg some (by kernel_rfl))
  f216 := Seq.func110.trans (congrArg some (by kernel_rfl))
  f257 := Seq.func101.trans (congrArg some (by kernel_rfl))
  f294 := Seq.func104.trans (congrArg some (by kernel_rfl))
  f295 := Seq.func105.trans (congrArg some (by kernel_rfl))
  f296 := Seq.func106.trans (congrArg some (by kernel_rfl))
  f297 := Seq.func107.trans (congrArg some (by kernel_rfl))
  f298 := Seq.func108.trans (congrArg some (by kernel_rfl))
  f299 := Seq.func109.trans (congrArg some (by kernel_rfl))
  f300 := Seq.func111.trans (congrArg some (by kernel_rfl))
  f301 := Seq.func112.trans (congrArg some (by kernel_rfl))
  f328 := Seq.func115.trans (congrArg some (by kernel_rfl))
  f329 := Seq.func116.trans (congrArg some (by kernel_rfl))
  f330 := Seq.func117.trans (congrArg some (by kernel_rfl))
  f331 := Seq.func118.trans (congrArg some (by kernel_rfl))
  f332 := Seq.func119.trans (congrArg some (by kernel_rfl))
  f343 := Seq.func121.trans (congrArg some (by kernel_rfl))
  t0 := ((Seq.pu 0).trans Tryz.underlying0)
  a0 := (fun w => (Seq.ag 0 w).trans (Tryz.isAgg0 w))
  z0 := (fun w => (Seq.so 0 w).trans (Tryz.sizeOf0 w))
  v0 := (fun w => (Seq.zv 0 w).trans (Tryz.zeroValue0 w))
  t3 := ((Seq.pu 3).trans Tryz.underlying3)
  a3 := (fun w => (Seq.ag 3 w).trans (Tryz.isAgg3 w))
  z3 := (fun w => (Seq.so 3 w).trans (Tryz.sizeOf3 w))
  v3 := (fun w => (Seq.zv 3 w).trans (Tryz.zeroValue3 w))
  t4 := ((Seq.pu 4).trans Tryz.underlying4)
  a4 := (fun w => (Seq.ag 4 w).trans (Tryz.isAgg4 w))
  z4 := (fun w => (Seq.so 4 w).trans (Tryz.sizeOf4 w))
  v4 := (fun w => (Seq.zv 4 w).trans (Tryz.zeroValue4 w))
  t5 := ((Seq.pu 5).trans Tryz.underlying5)
  a5 := (fun w => (Seq.ag 5 w).trans (Tryz.isAgg5 w))
  z5 := (fun w => (Seq.so 5 w).trans (Tryz.sizeOf5 w))
  v5 := (fun w => (Seq.zv 5 w).trans (Tryz.zeroValue5 w))
  t9 := ((Seq.pu 9).trans Tryz.underlying9)
  a9 := (fun w => (Seq.ag 9 w).trans (Tryz.isAgg9 w))
  z9 := (fun w => (Seq.so 9 w).trans (Tryz.sizeOf9 w))
  v9 := (fun w => (Seq.zv 9 w).trans (Tryz.zeroValue9 w))
  t28 := ((Seq.pu 43).trans Tryz.underlying43)
  a28 := (fun w => (Seq.ag 43 w).trans (Tryz.isAgg43 w))
  z28 := (fun w => (Seq.so 43 w).trans (Tryz.sizeOf43 w))
  v28 := (fun w => (Seq.zv 43 w).trans (Tryz.zeroValue43 w))
  t46 := ((Seq.pu 112).trans Tryz.underlying112)
  a46 := (fun w => (Seq.ag 112 w).trans (Tryz.isAgg112 w))
  z46 := (fun w => (Seq.so 112 w).trans (Tryz.sizeOf112 w))
  v46 := (fun w => (Seq.zv 112 w).trans (Tryz.zeroValue112 w))
  t51 := ((Seq.pu 88).trans Tryz.underlying88)
  a51 := (fun w => (Seq.ag 88 w).trans (Tryz.isAgg88 w))
  z51 := (fun w => (Seq.so 88 w).trans (Tryz.sizeOf88 w))
  v51 := (fun w => (Seq.zv 88 w).trans (Tryz.zeroValue88 w))
  t53 := ((Seq.pu 85).trans Tryz.underlying85)
  a53 := (fun w => (Seq.ag 85 w).trans (Tryz.isAgg85 w))
  z53 := (fun w => (Seq.so 85 w).trans (Tryz.sizeOf85 w))
  v53 := (fun w => (Seq.zv 85 w).trans (Tryz.zeroValue85 w))
  t131 := ((Seq.pu 131).trans Tryz.underlying131)
  a131 := (fun w => (Seq.ag 131 w).trans (Tryz.isAgg131 w))
  z131 := (fun w => (Seq.so 131 w).trans (Tryz.sizeOf131 w))
  v131 := (fun w => (Seq.zv 131 w).trans (Tryz.zeroValue131 w))
  t182 := ((Seq.pu 161).trans Tryz.underlying161)
  a182 := (fun w => (Seq.ag 161 w).trans (Tryz.isAgg161 w))
  z182 := (fun w => (Seq.so 161 w).trans (Tryz.sizeOf161 w))
  v182 := (fun w => (Seq.zv 161 w).trans (Tryz.zeroValue161 w))
  t183 := ((Seq.pu 162).trans Tryz.underlying162)
  a183 := (fun w => (Seq.ag 162 w).trans (Tryz.isAgg162 w))
  z183 := (fun w => (Seq.so 162 w).trans (Tryz.sizeOf162 w))
  v183 := (fun w => (Seq.zv 162 w).trans (Tryz.zeroValue162 w))
  t218 := ((Seq.pu 170).trans Tryz.underlying170)
  a218 := (fun w => (Seq.ag 170 w).trans (Tryz.isAgg170 w))
  z218 := (fun w => (Seq.so 170 w).trans (Tryz.sizeOf170 w))
  v218 := (fun w => (Seq.zv 170 w).trans (Tryz.zeroValue170 w))
  t222 := ((Seq.pu 173).trans Tryz.underlying173)
  a222 := (fun w => (Seq.ag 173 w).trans (Tryz.isAgg173 w))
  z222 := (fun w => (Seq.so 173 w).trans (Tryz.sizeOf173 w))
  v222 := (fun w => (Seq.zv 173 w).trans (Tryz.zeroValue173 w))
  t228 := ((Seq.pu 175).trans Tryz.underlying175)
  a228 := (fun w => (Seq.ag 175 w).trans (Tryz.isAgg175 w))
  z228 := (fun w => (Seq.so 175 w).trans (Tryz.sizeOf175 w))
  v228 := (fun w => (Seq.zv 175 w).trans (Tryz.zeroValue175 w))
  t229 := ((Seq.pu 176).trans Tryz.underlying176)
  a229 := (fun w => (Seq.ag 176 w).trans (Tryz.isAgg176 w))
  z229 := (fun w => (Seq.so 176 w).trans (Tryz.sizeOf176 w))
  v229 := (fun w => (Seq.zv 176 w).trans (Tryz.zeroValue176 w)) }
def Seq.compInt_ren : Go.Shelf.Ren := ⟨fun | 20 => 97 | n => n, fun | 22 => 43 | 3 => 3 | 4 => 4 | 0 => 0 | n => n, fun | n => n⟩
theorem Seq.compInt : Go.Proofs.Lays2.n20 Seq.prog Seq.compInt_ren := {
  mixed := by kernel_rfl
  f20 := Seq.func97.trans (congrArg some (by kernel_rfl))
  t0 := ((Seq.pu 0).trans Tryz.underlying0)
  a0 := (fun w => (Seq.ag 0 w).trans (Tryz.isAgg0 w))
  z0 := (fun w => (Seq.so 0 w).trans (Tryz.sizeOf0 w))
  v0 := (fun w => (Seq.zv 0 w).trans (Tryz.zeroValue0 w))
  t3 := ((Seq.pu 3).trans Tryz.underlying3)
  a3 := (fun w => (Seq.ag 3 w).trans (Tryz.isAgg3 w))
  z3 := (fun w => (Seq.so 3 w).trans (Tryz.sizeOf3 w))
  v3 := (fun w => (Seq.zv 3 w).trans (Tryz.zeroValue3 w))
  t4 := ((Seq.pu 4).trans Tryz.underlying4)
  a4 := (fun w => (Seq.ag 4 w).trans (Tryz.isAgg4 w))
  z4 := (fun w => (Seq.so 4 w).trans (Tryz.sizeOf4 w))
  v4 := (fun w => (Seq.zv 4 w).trans (Tryz.zeroValue4 w))
  t22 := ((Seq.pu 43).trans Tryz.underlying43)
  a22 := (fun w => (Seq.ag 43 w).trans (Tryz.isAgg43 w))
  z22 := (fun w => (Seq.so 43 w).trans (Tryz.sizeOf43 w))
  v22 := (fun w => (Seq.zv 43 w).trans (Tryz.zeroValue43 w))
  i3 := by kernel_rfl }
end Go.Proofs.YthgelfnflafoiabGreat
namespace Go.Proofs.YthgelfnflafoiabGreat.Q
open Sim (Seq.prog)
open Go.RowKit
theorem sortInts_any {w : World} {base e g cap : Nat} {A : List Int} (h : w.ownsRow base e 1 (.slice (some ⟨g, 0, none⟩) A.length cap) A.length (A.map (Value.int .i64))) (hlen : A.length < 4611686018427387904) :
   Calls Seq.prog 96 #[.slice (some ⟨g, 0, none⟩) A.length cap] w fun en w' => en = .returned (.tuple #[]) /\ ∃ Z : List Int, Z.Perm A /\ Z.Pairwise (· <= ·) /\ w'.ownsRow base e 1 (.slice (some ⟨g, 0, none⟩) A.length cap) A.length (Z.map (Value.int .i64)) /\ w.grownBy w' (some g) := by
 have hg := h.lt g rfl
 rcases h.2 with ⟨h0, _⟩ | ⟨g', cap', cur, hv, hbase, hh, h1, h2, h3, h4⟩
 · cases h0
 simp only [Value.slice.injEq, Option.some.injEq, Addr.mk.injEq, and_true, true_and] at hv
 obtain ⟨rfl, rfl⟩ := hv
 have hcon := Any.slices_Sort_int Seq.sortInt g 0 cap A w (holds_of_blockI hh (by rw [Nat.mul_one] at h4; exact h4)) hg.2 hlen
 change Calls Seq.prog 96 _ _ _ at hcon
 refine hcon.mono ?_
 rintro en w' ⟨rfl, n, os, rfl⟩
 refine ⟨rfl, A.mergeSort fun x y => decide (x <= y), List.mergeSort_perm _ _, ?_, ownsRow_sortedI (by simp) hbase hh h1 h2 h3, grownBy_sortedI _⟩
 have := List.pairwise_mergeSort (le := fun x y : Int => decide (x <= y)) (fun a b c h1 h2 => by simp only [decide_eq_true_eq] at *; omega) (fun a b => by simp only [Bool.or_eq_true, decide_eq_true_eq]; omega) A
 exact this.imp (fun h => by simpa using h)
theorem toArray_get {Z : List Int} {m : Nat} (hm : m < Z.length) : Z.toArray[m]! = Z[m] := by simp [hm]
theorem compact_inv {Z : List Int} (hZ : Z.Pairwise (· <= ·)) (m : Nat) (hm : m <= Z.length) :
   (Lib.compactUpTo Z.toArray m).Pairwise (· < ·) /\ (∀ x, x ∈ Lib.compactUpTo Z.toArray m ↔ x ∈ Z.take m) /\ (Lib.compactUpTo Z.toArray m).length <= m := by
 induction m with
 | zero => exact ⟨List.Pairwise.nil, fun x => by simp [Lib.compactUpTo], Nat.le_refl _⟩
 | succ m ih =>
   obtain ⟨h1, h2, h3⟩ := ih (by omega)
   have hlt : m < Z.length := by omega
   rw [Lib.compactUpTo_succ, toArray_get hlt]
   have hZ' := hZ
   rw [List.pairwise_iff_getElem] at hZ'
   by_cases hk : Lib.keeps Z.toArray m = true
   · rw [if_pos hk]
     refine ⟨?_, fun x => ?_, by simp only [List.length_append, List.length_singleton]; omega⟩
     · rw [List.pairwise_append]
       refine ⟨h1, List.pairwise_singleton _ _, fun a ha b hb => ?_⟩
       simp only [List.mem_singleton] at hb
       subst hb
       obtain ⟨j, hj, e⟩ := mem_take_lt ((h2 a).1 ha)
       obtain ⟨hjl, e⟩ := List.getElem?_eq_some_iff.1 e
       subst e
       have hne : Z[m] ≠ Z[m - 1] := by
         unfold Lib.keeps at hk
         simp only [decide_eq_true_eq] at hk
         rcases hk with hk | hk
         · omega
         · rwa [toArray_get hlt, toArray_get (by omega : m - 1 < Z.length)] at hk
       have h4 := hZ' (m - 1) m (by omega) hlt (by omega)
       have h5 : Z[j] <= Z[m - 1] := by
         by_cases e : j = m - 1
         · subst e; exact Int.le_refl _
         · exact hZ' j (m - 1) hjl (by omega) (by omega)
       omega
     · rw [take_succ_get Z m hlt, List.mem_append, List.mem_append, h2 x]
   · rw [if_neg hk, List.append_nil]
     refine ⟨h1, fun x => ?_, by omega⟩
     have h0 : 0 < m := by
       rcases Nat.eq_zero_or_pos m with e | e
       · subst e; exact absurd (Lib.keeps_lt_one _ 0 (by omega)) hk
       · exact e
     have he : Z[m] = Z[m - 1] := by
       rcases Decidable.em (Z[m] = Z[m - 1]) with e | e
       · exact e
       · exact absurd (Lib.keeps_pos (by rw [toArray_get hlt, toArray_get (by omega : m - 1 < Z.length)]; exact e)) hk
     rw [take_succ_get Z m hlt, List.mem_append, h2 x]
     constructor
     · exact .inl
     · rintro (h | h)
       · exact h
       · simp only [List.mem_singleton] at h
         rw [h, he]
         have : (Z.take m)[m - 1]? = some Z[m - 1] := by rw [List.getElem?_take_of_lt (by omega), List.getElem?_eq_getElem (by omega)]
         exact List.mem_of_getElem? this
theorem compact_len (Z : List Int) : (Lib.compact Z).length <= Z.length := by
 unfold Lib.compact Lib.compactUpTo
 rw [List.length_map]
 exact Nat.le_trans (List.length_filter_le _ _) (by simp)
theorem compact_ordered {A Z : List Int} (hp : Z.Perm A) (hZ : Z.Pairwise (· <= ·)) : Ordered A (Lib.compact Z) := by
 obtain ⟨h1, h2, h3⟩ := compact_inv hZ Z.length (Nat.le_refl _)
 exact ⟨h1, fun x => by rw [show Lib.compact Z = Lib.compactUpTo Z.toArray Z.length from rfl, h2 x, List.take_length]; exact hp.mem_iff, by have := hp.length_eq; unfold Lib.compact; omega⟩
theorem compact_any {w : World} {base e g cap n : Nat} {Z : List Int} (hn : Z.length = n) (h : w.ownsRow base e 1 (.slice (some ⟨g, 0, none⟩) n cap) n (Z.map (Value.int .i64))) (hlen : n < 4611686018427387904) :
   Calls Seq.prog 97 #[.slice (some ⟨g, 0, none⟩) n cap] w fun en w' => en = .returned (.slice (some ⟨g, 0, none⟩) (Lib.compact Z).length cap) /\ ZsAt w' (some ⟨g, 0, none⟩) (Lib.compact Z) /\ w.grownBy w' (some g) := by
 subst hn
 rcases h.2 with ⟨h0, _⟩ | ⟨g', cap', cur, hv, hbase, hh, h1, h2, h3, h4⟩
 · cases h0
 simp only [Value.slice.injEq, Option.some.injEq, Addr.mk.injEq, and_true, true_and] at hv
 obtain ⟨rfl, rfl⟩ := hv
 have hcon := Any.slices_Compact_int Seq.compInt g 0 cap Z w (holds_of_blockI hh (by rw [Nat.mul_one] at h4; exact h4)) (by omega) h1
 change Calls Seq.prog 97 _ _ _ at hcon
 refine hcon.mono ?_
 rintro en w' ⟨rfl, q, rfl⟩
 have hle : (Lib.compact Z).length <= Z.length := compact_len Z
 have ho := ownsRow_sortedI (n := q) (os := #[]) (ss := Z) (ts := Lib.compact Z ++ List.replicate (Z.length - (Lib.compact Z).length) 0) (by simp; omega) hbase hh h1 h2 h3
 have hgr := grownBy_sortedI (w := w) (g := g) (n := q) (os := #[]) (Lib.compact Z ++ List.replicate (Z.length - (Lib.compact Z).length) 0).toArray
 rw [Sort.grow_empty] at ho hgr
 refine ⟨rfl, ?_, hgr⟩
 by_cases h0 : Lib.compact Z = []
 · exact .inl h0
 refine .inr ⟨g, 0, rfl, (ho.lt g rfl).2, fun j hj => ?_⟩
 rw [Nat.zero_add, ho.cellAt j (by omega), List.getElem?_map, List.getElem?_append_left hj, List.getElem?_eq_getElem hj, List.getD_eq_getElem?_getD, List.getElem?_eq_getElem hj]
 rfl
theorem compact_nil (w : World) : Calls Seq.prog 97 #[.slice none 0 0] w fun en w' => en = .returned (.slice none 0 0) /\ w' = w := by
 go_enter Seq.func97, Tryz.ntmps97
 go_wp2
 go_ret
 exact ⟨rfl, rfl⟩
theorem sort_nil (w : World) : Calls Seq.prog 96 #[.slice none 0 0] w fun en w' => en = .returned (.tuple #[]) /\ w' = w := by
 have hcon := Any.slices_Sort_int_none Seq.sortInt none 0 w
 change Calls Seq.prog 96 _ _ _ at hcon
 exact hcon
theorem hideS {p : Prop} (h : p) : Hid p := h
set_option maxRecDepth 100000 in
set_option maxHeartbeats 4000000 in
theorem clone1_any (ao : Option Addr) (cap : Nat) (A : List Int) (w : World) (hz : ZsAt w ao A) (h8 : A.length <= 800) :
   Calls Seq.prog 95 #[.slice ao A.length cap] w fun e w' => ∃ v', e = .returned v' /\ w'.ownsRow w.heap.size 3 1 v' A.length (A.map (Value.int .i64)) /\ Below w.heap.size w w' := by
 obtain ⟨i0, hi, hz0, hz1, hz2⟩ := info_parts Tryz.infoInt
 have q22 : ∀ (w : World) (a : Option Addr) (n c n' c' : Nat), (binOp .eql 43 (.slice a n c) (.slice none n' c')).run Seq.prog w = .ok (.bool a.isNone) w := fun w a n c n' c' => Lib.run_eql_slice_nil w _ _ a n c n' c' ((Seq.pu 43).trans Tryz.underlying43)
 cases ao with
 | none =>
   have h0 : A = [] := by
     rcases hz with h | ⟨b, off, e, _⟩
     · exact h
     · cases e
   subst h0
   clear hz
   go_enter Seq.func95, Tryz.ntmps95
   go_wp2
   go_ret
   exact ⟨_, rfl, World.ownsRow_nil _ _ _ _, Below.refl _ _⟩
 | some a =>
   have hc : ∀ o, ∀ j u, (A.map (Value.int .i64))[j]? = some u -> (w.alloc o).cell? (a.add j) = some u := by
     intro o j u hu
     have hj : j < A.length := by have := (List.getElem?_eq_some_iff.1 hu).1; simpa using this
     rcases hz.below (pal w o) with h | ⟨b, off, e, _, hc⟩
     · rw [h] at hj; simp at hj
     · simp only [Option.some.injEq] at e
       subst e
       rw [Go.WideShapes.add_plain, hc j hj]
       rw [List.getElem?_map, List.getElem?_eq_getElem hj] at hu
       simp only [Option.map_some, Option.some.injEq] at hu
       rw [<- hu, List.getD_eq_getElem?_getD, List.getElem?_eq_getElem hj]
       rfl
   have HC := hideS hc
   have HONE : Hid (∀ u ∈ A.map (Value.int .i64), u.oneCell' = true) := by intro u hu; rw [List.mem_map] at hu; obtain ⟨z, _, rfl⟩ := hu; rfl
   have HEL : Hid ((A.map (Value.int .i64)).length = A.length * 1) := by show _ = _; simp
   clear hc hz
   go_enter Seq.func95, Tryz.ntmps95
   go_wp2_with (at_builtin; refine wpList_append_own _ rfl _ _ 43 rfl w.heap.size 3 i0 (.int .i64 0) 1 8 ((Seq.pu 43).trans Tryz.underlying43) hi hz0 hz1 hz2 rfl (by decide) _ _ _ rfl (World.ownsRow_made w #[] 0 (Nat.le_refl _) (Nat.zero_le _) rfl) a A.length cap (A.map (Value.int .i64)) rfl HEL.out (HC.out _) HONE.out (by unfold maxLen; omega) (by omega) (by simp) ?_; intro v' w1 hown hgrow hnil)
   have hb : Below w.heap.size w w1 := ((Below.refl _ w).alloc (Nat.le_refl _) _).grown hgrow (by simp) (fun k hk => by cases hk; exact Nat.le_refl _)
   have R : w1.ownsRow w.heap.size 3 1 v' A.length (A.map (Value.int .i64)) := by simpa using hown
   clear hown hgrow hnil
   go_wp2
   go_ret
   exact ⟨v', rfl, R, hb⟩
def spn (S : List Int) (j : Nat) : List (Int × Int) := (List.range j).map fun i => (S.getD i 0, S.getD (i + 1) 0)
theorem spn_length (S : List Int) (j : Nat) : (spn S j).length = j := by simp [spn]
theorem spn_get (S : List Int) (j k : Nat) (h : k < j) (hS : k + 1 < S.length) : (spn S j).getD k (0, 0) = (S[k], S[k + 1]) := by
 simp [spn, List.getD_eq_getElem?_getD, h, hS, show k < S.length by omega]
theorem encs_spn (S : List Int) (j : Nat) (h : j + 1 < S.length) : encs (spn S (j + 1)) = encs (spn S j) ++ [.int .i64 S[j], .int .i64 S[j + 1]] := by
 unfold spn
 rw [List.range_succ, List.map_append]
 unfold encs flat
 rw [List.flatMap_append, List.map_append]
 simp [List.getD_eq_getElem?_getD, h, show j < S.length by omega]
set_option maxRecDepth 100000 in
set_option maxHeartbeats 4000000 in
theorem spans_any (ao : Option Addr) (ca : Nat) (A : List Int) (w : World) (hz : ZsAt w ao A) (h8 : A.length <= 800) :
   Calls Seq.prog 88 #[.slice ao A.length ca] w fun e w' => ∃ S v, e = .returned v /\ Ordered A S /\ w'.ownsRow w.heap.size 63 2 v (S.length - 1) (encs (spn S (S.length - 1))) /\ Below w.heap.size w w' := by
 obtain ⟨i0, hi, hz0, hz1, hz2⟩ := info_parts Tryz.infoIvl
 have hcl := clone1_any ao ca A w hz h8
 clear hz
 go_enter Seq.func88, Tryz.ntmps88
 go_wp2_with fail
 refine hcl.mono ?_
 rintro e w0 ⟨v0, rfl, hown0, hb0⟩
 clear hcl
 have hcase := hown0.2
 rcases hcase with ⟨rfl, h0⟩ | ⟨g, cap, cur, rfl, _⟩
 · have hA : A = [] := List.eq_nil_of_length_eq_zero h0
   have hs := fun W => sort_nil W
   have hk := fun W => compact_nil W
   have HO : Hid (Ordered A []) := by rw [hA]; exact ⟨List.Pairwise.nil, fun x => Iff.rfl, Nat.le_refl _⟩
   clear hown0 h0 hA
   go_wp2_with (first | (go_at_call 96; refine (hs _).mono ?_; rintro e w' ⟨rfl, rfl⟩) | (go_at_call 97; refine (hk _).mono ?_; rintro e w' ⟨rfl, rfl⟩))
   refine wp_loop_rounds 1 ?_
   rw [rounds_succ]
   go_wp2
   go_ret
   exact ⟨[], _, rfl, HO.out, World.ownsRow_nil _ _ _ _, by assumption⟩
 · have hgW := (hown0.lt g rfl).1
   have hsort := sortInts_any hown0 (by omega)
   clear hown0
   go_wp2_with fail
   refine hsort.mono ?_
   rintro e w1 ⟨rfl, Z, hpZ, hZ, hown1, hg1⟩
   have hb1 : Below w.heap.size w w1 := hb0.grown hg1 hb0.size (fun k hk => by cases hk; exact hgW)
   have hcomp := compact_any hpZ.length_eq hown1 (by omega)
   have HO : Hid (Ordered A (Lib.compact Z)) := compact_ordered hpZ hZ
   clear hpZ hZ hown1 hg1 hsort hb0
   generalize Lib.compact Z = S at HO hcomp
   have hSl : S.length <= 800 := Nat.le_trans HO.out.len h8
   go_wp2_with fail
   refine hcomp.mono ?_
   rintro e w2 ⟨rfl, hz2', hg2⟩
   have hb2 : Below w.heap.size w w2 := hb1.grown hg2 hb1.size (fun k hk => by cases hk; exact hgW)
   clear hg2 hb1 hcomp
   go_wp2_with fail
   go_loopw [4, 5] (fun v vi wr => ∃ (j : Nat), vi = .int .i64 ((j : Int) + 1) /\ (j = 0 \/ j + 1 <= S.length) /\ wr.ownsRow w2.heap.size 63 2 v j (encs (spn S j)) /\ Below w2.heap.size w2 wr) (fun _ vi _ => S.length + 1 - (intOf vi).toNat)
   case atStart => exact ⟨0, rfl, .inl rfl, World.ownsRow_nil _ _ _ _, Below.refl _ _⟩
   case round =>
     obtain ⟨j, rfl, hil, hown, hb⟩ := hrel
     have hj8 : j <= 800 := by omega
     have hsz := hb.size
     by_cases hlt : j + 1 < S.length
     · rcases hz2' with h0 | ⟨b, off, e0, hbw, hc⟩
       · subst h0; simp at hlt
       simp only [Option.some.injEq, Addr.mk.injEq, and_true] at e0
       obtain ⟨rfl, rfl⟩ := e0
       have c0 : wr.cell? ⟨g, j, none⟩ = some (.int .i64 S[j]) := by
         have := hc j (by omega)
         rw [Nat.zero_add] at this
         rw [hb.cell (p := ⟨g, j, none⟩) hbw, this, List.getD_eq_getElem?_getD, List.getElem?_eq_getElem (by omega)]; rfl
       have c1 : wr.cell? ⟨g, j + 1, none⟩ = some (.int .i64 S[j + 1]) := by
         have := hc (j + 1) (by omega)
         rw [Nat.zero_add] at this
         rw [hb.cell (p := ⟨g, j + 1, none⟩) hbw, this, List.getD_eq_getElem?_getD, List.getElem?_eq_getElem (by omega)]; rfl
       have HE := hideS (encs_spn S j hlt)
       have hne : some g ≠ u4.ownBlock := fun h => by have := (hown.lt g h.symm).1; omega
       have hbr : g < wr.heap.size := by omega
       have hi1 : (j : Int) + 1 < (S.length : Int) := by omega
       have hi2 : (j : Int) < (S.length : Int) := by omega
       have hi3 : (0 : Int) <= (j : Int) := by omega
       have hi4 : (0 : Int) <= (j : Int) + 1 := by omega
       have hw1 : IntKind.i64.wrap ((j : Int) + 1 - 1) = (j : Int) := by rw [Int.add_sub_cancel]; exact wrap_small _ (by omega) (by omega)
       have hw2 : IntKind.i64.wrap (j : Int) = (j : Int) := wrap_small _ (by omega) (by omega)
       have HB : Hid (∀ (o : Obj) (w1 : World), ((wr.alloc o).drew).grownBy w1 u4.ownBlock -> Below w2.heap.size w2 w1) := fun o w1 hgr => ((hb.alloc hsz o).drew).grown hgr (by simp; omega) (fun j hj => (hown.lt j hj).1)
       clear hc
       go_wp2
       go_region_held3 (fun w' => w'.cell? ⟨g, j, none⟩ = some (.int .i64 S[j]) /\ w'.cell? ⟨g, j + 1, none⟩ = some (.int .i64 S[j + 1]))
         (first
           | go_keep
           | (go_split_ands
              refine ⟨?_, ?_⟩
              · (rw [hgrow.cell_far _ (by simp; omega) hne]; assumption)
              · (rw [hgrow.cell_far _ (by simp; omega) hne]; assumption)))
         ((refine step_append_lies _ (by rfl) _ _ _ (by rfl) w2.heap.size 63 i0 _ 2 16 ((Seq.pu 22).trans Tryz.underlying22) hi hz0 hz1 hz2 rfl (by omega) u4 j (encs (spn S j)) (by rfl) ((hown.alloc _).drew) ⟨wr.heap.size, 0, none⟩ 1 1 [.int .i64 S[j], .int .i64 S[j + 1]] (by rfl) (by rfl) (World.news_of_block (cs := #[.int .i64 S[j], .int .i64 S[j + 1]]) (t := 63) (fr := (0, 0)) (heap_alloc_new wr _)) (by simp [Value.oneCell']) (by omega) (by unfold maxLen; omega) (by omega) (by simp; omega) (wr.heap.size + 1) (by simp) ?_; intro gg cap1 w3 hown1 hgrow hat hltg))
       have hb' := HB.out _ _ hgrow
       rw [<- HE.out] at hown1
       clear hgrow hown hat hltg hne
       go_wp2
       go_roundw
       case rel => exact ⟨j + 1, by go_num, .inr (by omega), hown1, hb'⟩
       case measure => simp [intOf]; omega
     · have hil' : j = S.length - 1 := by omega
       have HR : Hid (wr.ownsRow w.heap.size 63 2 u4 (S.length - 1) (encs (spn S (S.length - 1)))) := by
         show World.ownsRow _ _ _ _ _ _ _
         rw [<- hil']; exact owns_base2 hown hb2.size
       have hbb := ptw hb2 hb
       have hi1 : ¬ ((j : Int) + 1 < (S.length : Int)) := by omega
       clear hown hil' hz2'
       go_wp2
       go_ret
       exact ⟨S, _, rfl, HO.out, HR.out, hbb⟩
theorem tl_ext {S : List Int} {f : Int -> Option Int} {i : Nat} {y : Int} {out : List (Int × Int × Int)} (hi : i + 1 < S.length) (hS : S.Pairwise (· < ·)) (T : Tl S f i out) (hp : f S[i] = some y) : Tl S f (i + 1) (ext out (S[i], S[i + 1], y)) := by
 rcases List.eq_nil_or_concat out with h0 | ⟨o, q, h0⟩
 · subst h0
   exact tl_put hi hS T hp (fun q h => by simp at h)
 · rw [List.concat_eq_append] at h0
   subst h0
   have hle := tl_last_le hi hS T (q := q) (by simp)
   cases hf : folB q (S[i], S[i + 1], y) with
   | true =>
     rw [ext_yes hf]
     exact tl_put hi hS T hp (fun r h => by simp at h; subst h; exact (folB_iff _ _).1 hf)
   | false =>
     rw [ext_no hf]
     have hn : ¬ Fol q (S[i], S[i + 1], y) := by rw [<- folB_iff, hf]; decide
     unfold Fol at hn
     simp only [not_or, not_and, Decidable.not_not] at hn
     have h1 : q.2.1 = S[i] := by omega
     exact tl_more hi hS T hp h1 (hn.2 h1)
theorem ownsRow_base {w : World} {base base' e size : Nat} {v : Value} {n : Nat} {xs : List Value} (h : w.ownsRow base e size v n xs) (hb : base' <= base) : w.ownsRow base' e size v n xs :=
 ⟨h.1, h.2.imp id (fun ⟨g, c, cur, h1, h2, h3⟩ => ⟨g, c, cur, h1, Nat.le_trans hb h2, h3⟩)⟩
set_option maxRecDepth 100000 in
set_option maxHeartbeats 4000000 in
theorem build_in (g : Nat) (caps : Array Value) (f : Int -> Option Int) (eg : ∀ args w, (callFunc g args).run Seq.prog w = .ok (.enter g args) w) (W1 w : World) (hW : Below W1.heap.size W1 w) (A : List Int)
   (hp : ∀ t, t ∈ A -> (∃ u ∈ A, t < u) -> ∀ wq, Below W1.heap.size W1 wq -> Calls Seq.prog g (#[.int .i64 t] ++ caps) wq fun e w' => (∃ x, e = .returned (.tuple #[.int .i64 x, .bool (f t).isSome]) /\ ∀ y, f t = some y -> x = y) /\ Below wq.heap.size wq w')
   (ao : Option Addr) (ca : Nat) (hz : ZsAt w ao A) (h8 : A.length <= 800) :
   Calls Seq.prog 70 #[.slice ao A.length ca, .func (.func g) #[] caps] w fun e w' => ∃ n r v', MapIs A f n r /\ e = .returned (.tuple #[v', .int .i64 n]) /\ w'.ownsRow W1.heap.size 35 3 v' r.length (enc3 r) /\ Below W1.heap.size W1 w' := by
 have HP : Hid (∀ t, t ∈ A -> (∃ u ∈ A, t < u) -> ∀ wq, Below W1.heap.size W1 wq -> Calls Seq.prog g (#[.int .i64 t] ++ caps) wq fun e w' => (∃ x, e = .returned (.tuple #[.int .i64 x, .bool (f t).isSome]) /\ ∀ y, f t = some y -> x = y) /\ Below wq.heap.size wq w') := hp
 have hsp := spans_any ao ca A w hz h8
 clear hp hz
 go_enter Seq.func70, Tryz.ntmps70
 go_wp2_with fail
 refine hsp.mono ?_
 rintro e w2 ⟨S, v0, rfl, hO, hown0, hb0⟩
 have HO : Hid (Ordered A S) := hO
 have hSl : S.length <= 800 := Nat.le_trans hO.len h8
 have hb2 : Below W1.heap.size W1 w2 := ptw hW hb0
 obtain ⟨N, hN⟩ : ∃ N, N = S.length - 1 := ⟨_, rfl⟩
 rw [<- hN] at hown0
 have HN : Hid (N = S.length - 1) := hN
 have hN8 : N <= 800 := by omega
 have hown1 : w2.ownsRow w.heap.size 63 2 v0 (spn S N).length (encs (spn S N)) := by rw [spn_length]; exact hown0
 obtain ⟨so, sc, hv0, hivs⟩ := ivAt_of_owns hown1
 rw [spn_length] at hv0
 subst hv0
 have HIV : Hid (IvAt w2 so (spn S N)) := hivs
 clear hO hsp hW hb0 hown0 hown1 hivs hN
 go_wp2_with fail
 go_loopw [6, 9, 10, 14] (fun v _ _ vi wr => ∃ (j : Nat) (out : List (Int × Int × Int)), vi = .int .i64 j /\ j <= N /\ Tl S f j out /\ wr.ownsRow w2.heap.size 35 3 v out.length (enc3 out) /\ Below w2.heap.size w2 wr) (fun _ _ _ vi _ => N - (intOf vi).toNat)
 case atStart => exact ⟨0, [], rfl, Nat.zero_le _, tl_start S f, World.ownsRow_nil _ _ _ _, Below.refl _ _⟩
 case round =>
   obtain ⟨j, out, rfl, hjN, hT, hown, hb⟩ := hrel
   have HT : Hid (Tl S f j out) := hT
   have hol := hT.len
   clear hT
   have hbb : Below W1.heap.size W1 wr := hb2.trans (hb.mono hb2.size)
   by_cases hlt : j < N
   · have hjS : j + 1 < S.length := by have := HN.out; omega
     rcases HIV.out.below hb with h0 | ⟨b, off, rfl, hbw, hc⟩
     · have := spn_length S N; rw [h0] at this; simp at this; omega
     have hcj := hc j (by rw [spn_length]; exact hlt)
     rw [spn_get S N j hlt hjS] at hcj
     obtain ⟨c0, c1⟩ := hcj
     simp only at c0 c1
     have hsz := hb.size
     have HB0 : Hid (∀ o, Below wr.heap.size wr (wr.alloc o)) := fun o => pal wr o
     have hcl := HP.out S[j] ((HO.out.mem _).1 (List.getElem_mem _)) ⟨S[j + 1], (HO.out.mem _).1 (List.getElem_mem hjS), List.pairwise_iff_getElem.1 HO.out.inc j (j + 1) (by omega) hjS (by omega)⟩ (wr.alloc (.cells #[.int .i64 S[j], .int .i64 S[j + 1]] 63)) (ptw hbb (pal _ _))
     have HOW : Hid (∀ W, Below wr.heap.size wr W -> W.ownsRow w2.heap.size 35 3 u6 out.length (enc3 out) /\ Below w2.heap.size w2 W) := fun W h => ⟨ownsRow_below hown h, hb.trans (h.mono hb.size)⟩
     clear hc hown hb HIV
     cases hfj : f S[j] with
     | none =>
       rw [hfj] at hcl
       simp only [Option.isSome_none] at hcl
       have HT' : Hid (Tl S f (j + 1) out) := tl_skip hjS HT.out hfj
       clear hfj
       go_wp2_with (go_at_fn g; refine hcl.mono ?_; rintro e w3 ⟨⟨x, rfl, _⟩, hb3⟩)
       have F := HOW.out w3 (ptw (HB0.out _) hb3)
       go_roundw
       case rel => exact ⟨j + 1, out, by go_num, by omega, HT'.out, F.1, F.2⟩
       case measure => simp [intOf]; omega
     | some y =>
       rw [hfj] at hcl
       simp only [Option.isSome_some] at hcl
       have HT' : Hid (Tl S f (j + 1) (ext out (S[j], S[j + 1], y))) := tl_ext hjS HO.out.inc HT.out hfj
       have HX : Hid (∀ W, Below wr.heap.size wr W -> Calls Seq.prog 91 #[u6, .agg #[.int .i64 S[j], .int .i64 S[j + 1], .int .i64 y]] W fun e w' => ∃ v', e = .returned v' /\ w'.ownsRow w2.heap.size 35 3 v' (ext out (S[j], S[j + 1], y)).length (enc3 (ext out (S[j], S[j + 1], y))) /\ Below w2.heap.size w2 w') := by
         intro W h
         obtain ⟨o1, o2⟩ := HOW.out W h
         refine (extend_any w2.heap.size u6 out (S[j], S[j + 1], y) W o1 o2.size (by omega)).mono ?_
         rintro e w' ⟨v', rfl, a1, a2⟩
         exact ⟨v', rfl, a1, o2.trans a2⟩
       clear hfj
       go_wp2_with fail
       go_at_fn g
       refine hcl.mono ?_
       rintro e w3 ⟨⟨x, rfl, hx⟩, hb3⟩
       have hxy := hx y rfl
       subst hxy
       have hb3' := ptw (HB0.out _) hb3
       have HX3 := HX.out w3 hb3'
       have d0 : w3.cell? ⟨wr.heap.size, 0, none⟩ = some (.int .i64 S[j]) := by rw [hb3.cell (p := ⟨wr.heap.size, 0, none⟩) (by simp)]; simp
       have d1 : w3.cell? ⟨wr.heap.size, 1, none⟩ = some (.int .i64 S[j + 1]) := by rw [hb3.cell (p := ⟨wr.heap.size, 1, none⟩) (by simp)]; simp
       clear hx hcl hb3 HOW
       go_wp2_with (go_at_call 91; refine HX3.mono ?_; rintro e w4 ⟨v4, rfl, hown4, hb4⟩)
       go_roundw
       case rel => exact ⟨j + 1, _, by go_num, by omega, HT'.out, hown4, hb4⟩
       case measure => simp [intOf]; omega
   · have hjn : j = N := by omega
     have hfit := fit_any w2.heap.size u6 out wr hown (by omega)
     have HM : Hid (∀ n r, FitIs out n r -> MapIs A f n r) := by
       intro n r h
       have := HT.out
       rw [hjn, HN.out] at this
       exact ⟨S, out, HO.out, this, h⟩
     have hsz2 := hb2.size
     subst hjn
     clear hown HIV
     go_wp2_with fail
     refine hfit.mono ?_
     rintro e w5 ⟨n, r, v5, hF, rfl, hown5, hb5⟩
     have HF := HM.out n r hF
     have HF' : Hid (MapIs A f n r) := HF
     have hbF : Below W1.heap.size W1 w5 := ptw hbb hb5
     have R := ownsRow_base hown5 hsz2
     clear hF HF hown5 hfit
     go_wp2
     go_ret2
     exact ⟨n, r, v5, HF'.out, rfl, R, hbF⟩
theorem build_any (g : Nat) (caps : Array Value) (f : Int -> Option Int) (eg : ∀ args w, (callFunc g args).run Seq.prog w = .ok (.enter g args) w) (W1 w : World) (hW : Below W1.heap.size W1 w)
   (hp : ∀ t wq, Below W1.heap.size W1 wq -> Calls Seq.prog g (#[.int .i64 t] ++ caps) wq fun e w' => (∃ x, e = .returned (.tuple #[.int .i64 x, .bool (f t).isSome]) /\ ∀ y, f t = some y -> x = y) /\ Below wq.heap.size wq w')
   (ao : Option Addr) (ca : Nat) (A : List Int) (hz : ZsAt w ao A) (h8 : A.length <= 800) :
   Calls Seq.prog 70 #[.slice ao A.length ca, .func (.func g) #[] caps] w fun e w' => ∃ n r v', MapIs A f n r /\ e = .returned (.tuple #[v', .int .i64 n]) /\ w'.ownsRow W1.heap.size 35 3 v' r.length (enc3 r) /\ Below W1.heap.size W1 w' :=
 build_in g caps f eg W1 w hW A (fun t _ _ => hp t) ao ca hz h8
theorem build_own (g : Nat) (caps : Array Value) (f : Int -> Option Int) (eg : ∀ args w, (callFunc g args).run Seq.prog w = .ok (.enter g args) w) (W1 w : World) (hW : Below W1.heap.size W1 w)
   (hp : ∀ t wq, Below W1.heap.size W1 wq -> Calls Seq.prog g (#[.int .i64 t] ++ caps) wq fun e w' => (∃ x, e = .returned (.tuple #[.int .i64 x, .bool (f t).isSome]) /\ ∀ y, f t = some y -> x = y) /\ Below wq.heap.size wq w')
   (gb ca : Nat) (A : List Int) (hown : w.ownsRow W1.heap.size 3 1 (.slice (some ⟨gb, 0, none⟩) A.length ca) A.length (A.map (Value.int .i64))) (h8 : A.length <= 800) :
   Calls Seq.prog 70 #[.slice (some ⟨gb, 0, none⟩) A.length ca, .func (.func g) #[] caps] w fun e w' => ∃ n r v', MapIs A f n r /\ e = .returned (.tuple #[v', .int .i64 n]) /\ w'.ownsRow W1.heap.size 35 3 v' r.length (enc3 r) /\ Below W1.heap.size W1 w' := by
 obtain ⟨ao, cap, he, hz⟩ := zsAt_of_owns hown
 simp only [Value.slice.injEq, true_and] at he
 obtain ⟨rfl, rfl⟩ := he
 exact build_any g caps f eg W1 w hW hp _ _ A hz h8
set_option maxHeartbeats 1000000 in
theorem pbounds_any (ao : Option Addr) (cap : Nat) (m : List (Int × Int × Int)) (w : World) (hl : PcAt w ao m) (h3 : m.length <= 200) :
   Calls Seq.prog 71 #[.slice ao m.length cap] w fun e w' => ∃ g, e = .returned (.slice (some ⟨g, 0, none⟩) (2 * m.length) (2 * m.length)) /\ w'.ownsRow w.heap.size 3 1 (.slice (some ⟨g, 0, none⟩) (2 * m.length) (2 * m.length)) (2 * m.length) ((turnsOf m).map (Value.int .i64)) /\ Below w.heap.size w w' := by
 obtain ⟨i0, hi, hz0, hz1, hz2⟩ := info_parts Tryz.infoInt
 go_enter Seq.func71, Tryz.ntmps71
 go_wp2_with (at_make; refine wpList_make_own _ rfl _ _ 43 rfl w.heap.size 3 i0 (.int .i64 0) 1 ((Seq.pu 43).trans Tryz.underlying43) hi hz0 hz1 .i64 .i64 _ (2 * m.length) rfl rfl (by omega) (by rw [hz2]; omega) (by unfold maxLen; omega) (Nat.le_refl _) ?_; intro w0 hown0 hgrow0)
 go_loopw [3, 12] (fun v i wr => ∃ k : Nat, k <= m.length /\ i = .int .i64 k /\ v = .slice (some ⟨w.heap.size, 0, none⟩) (2 * k) (2 * m.length) /\ wr.ownsRow w.heap.size 3 1 (.slice (some ⟨w.heap.size, 0, none⟩) (2 * k) (2 * m.length)) (2 * k) ((turnsOf (m.take k)).map (Value.int .i64)) /\ Below w.heap.size w wr) (fun _ i _ => m.length - (intOf i).toNat)
 case atStart => exact ⟨0, Nat.zero_le _, rfl, rfl, by assumption, (Below.refl _ _).grown (by assumption) (Nat.le_refl _) (fun k hk => by cases hk)⟩
 case round =>
   obtain ⟨k, hk, rfl, rfl, hown, hb⟩ := hrel
   by_cases hlt : k < m.length
   · rcases hl.below hb with h0 | ⟨b, off, rfl, hbw, hc⟩
     · subst h0; simp at hlt
     obtain ⟨c0, c1, c2⟩ := PcAt.get hlt hc
     clear hc hl
     have hsz := hb.size
     go_wp2_with (at_builtin; refine wpList_append_fits _ rfl _ _ 43 rfl w.heap.size 3 i0 1 ((Seq.pu 43).trans Tryz.underlying43) hi hz1 w.heap.size (2 * k) (2 * m.length) _ rfl ((hown.alloc _).alloc _) ⟨wr.heap.size + 1, 0, none⟩ 2 2 [.int .i64 m[k].1, .int .i64 m[k].2.1] rfl rfl ?c1 ?c2 ?c3 ?_)
     case c1 => exact cells_two_new _ _ _ _ _ (by simp)
     case c2 => intro u hu; simp at hu; rcases hu with rfl | rfl <;> rfl
     case c3 => omega
     intro w1 hown' hgrow
     have R : w1.ownsRow w.heap.size 3 1 (.slice (some ⟨w.heap.size, 0, none⟩) (2 * (k + 1)) (2 * m.length)) (2 * (k + 1)) ((turnsOf (m.take (k + 1))).map (Value.int .i64)) := by
       rw [turnsOf_succ m k hlt, List.map_append]; exact hown'
     have hb' : Below w.heap.size w w1 := ((hb.alloc hsz _).alloc (by simp; omega) _).grown hgrow (by simp; omega) (fun j hj => (hown.lt j hj).1)
     clear hown hown' hgrow
     go_wp2
     go_roundw
     case rel => exact ⟨k + 1, by omega, by go_num, rfl, R, hb'⟩
     case measure => simp [intOf]; omega
   · have hkl : k = m.length := by omega
     subst hkl
     rw [List.take_length] at hown
     go_wp2
     go_ret
     exact ⟨_, rfl, hown, hb⟩
set_option maxRecDepth 100000 in
set_option maxHeartbeats 4000000 in
theorem PCheck_any (ao : Option Addr) (cap : Nat) (m : List (Int × Int × Int)) (w : World) (hl : PcAt w ao m) :
   Calls Seq.prog 65 #[.slice ao m.length cap] w fun e w' => e = .returned (.int .i64 (mchk m)) /\ Below w.heap.size w w' := by
 by_cases h2 : 200 < m.length
 · have HC : Hid (mchk m = 2) := mchk_large h2
   go_enter Seq.func65, Tryz.ntmps65
   go_wp2
   go_ret
   exact ⟨ret_int HC.out.symm, Below.refl _ _⟩
 · have h3 : m.length <= 200 := by omega
   go_enter Seq.func65, Tryz.ntmps65
   go_wp2
   go_loopw [3, 10] (fun _ i wr => ∃ k : Nat, k <= m.length /\ i = .int .i64 k /\ MGood m k /\ Below w.heap.size w wr) (fun _ i _ => m.length - (intOf i).toNat)
   case atStart => exact ⟨0, Nat.zero_le _, rfl, fun i hi => absurd hi (Nat.not_lt_zero _), Below.refl _ _⟩
   case round =>
     obtain ⟨k, hk, rfl, hn, hb⟩ := hrel
     have HN : Hid (MGood m k) := hn
     clear hn
     by_cases hlt : k < m.length
     · rcases hl.below hb with h0 | ⟨b, off, rfl, hbw, hc⟩
       · subst h0; simp at hlt
       obtain ⟨c0, c1, c2⟩ := PcAt.get hlt hc
       have HG : Hid (m.getD k (0, 0, 0) = m[k]) := getD3 hlt
       have HNear : Hid (∀ W, Calls Seq.prog 69 #[.agg #[.int .i64 m[k].1, .int .i64 m[k].2.1, .int .i64 m[k].2.2]] W fun e w' => e = .returned (.bool (nr3 m[k].1 m[k].2.1 m[k].2.2)) /\ Below W.heap.size W w') := fun W => pnear_any m[k].1 m[k].2.1 m[k].2.2 W
       have HK : Hid (∀ w1, Below (wr.alloc (.cells #[.int .i64 m[k].1, .int .i64 m[k].2.1, .int .i64 m[k].2.2] 35)).heap.size (wr.alloc (.cells #[.int .i64 m[k].1, .int .i64 m[k].2.1, .int .i64 m[k].2.2] 35)) w1 -> Kp w wr w1 b (off + k * 3) m[k] m[k]) := fun w1 h => kp_start hb hbw c0 c1 c2 h
       by_cases n1 : NearP m[k]
       · have e1 := (nr3_iff m[k]).2 n1
         rw [e1] at HNear
         by_cases g1 : m[k].2.1 <= m[k].1
         · have HC : Hid (mchk m = 5) := mchk_no (k := k) h3 hlt (by unfold Sound; rw [HG.out]; rintro ⟨_, h, _⟩; omega)
           have d1 : decide (m[k].2.1 <= m[k].1) = true := by simpa using g1
           clear hc hl n1 e1 hb
           go_wp2_with fail
           generalize wr.alloc (.cells #[.int .i64 m[k].1, .int .i64 m[k].2.1, .int .i64 m[k].2.2] 35) = W0 at HK ⊢
           have f0 : ∀ s : HeldIn W0, s.w.cell? ⟨wr.heap.size, 0, none⟩ = some (.int .i64 m[k].1) := fun s => (HK.out _ s.h).k0
           have f1 : ∀ s : HeldIn W0, s.w.cell? ⟨wr.heap.size, 1, none⟩ = some (.int .i64 m[k].2.1) := fun s => (HK.out _ s.h).k1
           have f2 : ∀ s : HeldIn W0, s.w.cell? ⟨wr.heap.size, 2, none⟩ = some (.int .i64 m[k].2.2) := fun s => (HK.out _ s.h).k2
           have hne : Nonempty (HeldIn W0) := ⟨⟨W0, Below.refl _ _⟩⟩
           refine wp_region_held W0 (Below.refl _ _) (by kernel_rfl) (by kernel_rfl) ?_
           repeat (go_big_quiet_step ((first | (go_at_call 69; exact held_of (HNear.out _)) | (go_at_call 85; exact held_of (HFol.out _)))))
           refine wpQuiet_nil ?_
           rintro _ ⟨s, rfl⟩
           have hbs := (HK.out _ s.h).bel
           generalize s.w = w1 at hbs ⊢
           go_wp2
           go_ret
           exact ⟨ret_int HC.out.symm, hbs⟩
         · have d1 : decide (m[k].2.1 <= m[k].1) = false := by simpa using g1
           by_cases hk0 : k = 0
           · subst hk0
             simp only [Nat.zero_mul, Nat.add_zero] at c0 c1 c2
             have HS : Hid (MGood m (0 + 1)) := mgood_succ HN.out ⟨by rw [HG.out]; exact n1, by rw [HG.out]; omega, fun h => absurd h (Nat.lt_irrefl _)⟩
             clear hc hl n1 e1 hb
             go_wp2_with fail
             generalize wr.alloc (.cells #[.int .i64 m[0].1, .int .i64 m[0].2.1, .int .i64 m[0].2.2] 35) = W0 at HK ⊢
             have f0 : ∀ s : HeldIn W0, s.w.cell? ⟨wr.heap.size, 0, none⟩ = some (.int .i64 m[0].1) := fun s => (HK.out _ s.h).k0
             have f1 : ∀ s : HeldIn W0, s.w.cell? ⟨wr.heap.size, 1, none⟩ = some (.int .i64 m[0].2.1) := fun s => (HK.out _ s.h).k1
             have f2 : ∀ s : HeldIn W0, s.w.cell? ⟨wr.heap.size, 2, none⟩ = some (.int .i64 m[0].2.2) := fun s => (HK.out _ s.h).k2
             have hne : Nonempty (HeldIn W0) := ⟨⟨W0, Below.refl _ _⟩⟩
             refine wp_region_held W0 (Below.refl _ _) (by kernel_rfl) (by kernel_rfl) ?_
             repeat (go_big_quiet_step ((first | (go_at_call 69; exact held_of (HNear.out _)) | (go_at_call 85; exact held_of (HFol.out _)))))
             refine wpQuiet_nil ?_
             rintro _ ⟨s, rfl⟩
             have hbs := (HK.out _ s.h).bel
             generalize s.w = w1 at hbs ⊢
             go_wp2
             go_roundw
             case rel => exact ⟨0 + 1, by omega, by go_num, HS.out, hbs⟩
             case measure => simp [intOf]; omega
           · obtain ⟨j, rfl⟩ : ∃ j, k = j + 1 := ⟨k - 1, by omega⟩
             have hj : j < m.length := by omega
             obtain ⟨p0, p1, p2⟩ := PcAt.get hj hc
             have HGj : Hid (m.getD (j + 1 - 1) (0, 0, 0) = m[j]) := by show _ = _; rw [Nat.add_sub_cancel]; exact getD3 hj
             clear HK
             have HK : Hid (∀ w1, Below (wr.alloc (.cells #[.int .i64 m[j + 1].1, .int .i64 m[j + 1].2.1, .int .i64 m[j + 1].2.2] 35)).heap.size (wr.alloc (.cells #[.int .i64 m[j + 1].1, .int .i64 m[j + 1].2.1, .int .i64 m[j + 1].2.2] 35)) w1 -> Kp w wr w1 b (off + j * 3) m[j + 1] m[j]) := fun w1 h => kp_start hb hbw p0 p1 p2 h
             have HFol : Hid (∀ W, Calls Seq.prog 85 #[.agg #[.int .i64 m[j].1, .int .i64 m[j].2.1, .int .i64 m[j].2.2], .agg #[.int .i64 m[j + 1].1, .int .i64 m[j + 1].2.1, .int .i64 m[j + 1].2.2]] W fun e w' => e = .returned (.bool (folB m[j] m[j + 1])) /\ Below W.heap.size W w') := fun W => follows_any m[j].1 m[j].2.1 m[j].2.2 m[j + 1].1 m[j + 1].2.1 m[j + 1].2.2 W
             have hj1 : (0 : Int) <= (j : Int) := by omega
             have hj2 : (j : Int) < (m.length : Int) := by omega
             by_cases g2 : Fol m[j] m[j + 1]
             · have HS : Hid (MGood m (j + 1 + 1)) := mgood_succ HN.out ⟨by rw [HG.out]; exact n1, by rw [HG.out]; omega, fun _ => by rw [HG.out, HGj.out]; exact g2⟩
               rw [(folB_iff _ _).2 g2] at HFol
               clear hc hl n1 e1 hb g2
               go_wp2_with fail
               generalize wr.alloc (.cells #[.int .i64 m[j + 1].1, .int .i64 m[j + 1].2.1, .int .i64 m[j + 1].2.2] 35) = W0 at HK ⊢
               have f0 : ∀ s : HeldIn W0, s.w.cell? ⟨wr.heap.size, 0, none⟩ = some (.int .i64 m[j + 1].1) := fun s => (HK.out _ s.h).k0
               have f1 : ∀ s : HeldIn W0, s.w.cell? ⟨wr.heap.size, 1, none⟩ = some (.int .i64 m[j + 1].2.1) := fun s => (HK.out _ s.h).k1
               have f2 : ∀ s : HeldIn W0, s.w.cell? ⟨wr.heap.size, 2, none⟩ = some (.int .i64 m[j + 1].2.2) := fun s => (HK.out _ s.h).k2
               have q0 : ∀ s : HeldIn W0, s.w.cell? ⟨b, off + j * 3, none⟩ = some (.int .i64 m[j].1) := fun s => (HK.out _ s.h).q0
               have q1 : ∀ s : HeldIn W0, s.w.cell? ⟨b, off + j * 3 + 1, none⟩ = some (.int .i64 m[j].2.1) := fun s => (HK.out _ s.h).q1
               have q2 : ∀ s : HeldIn W0, s.w.cell? ⟨b, off + j * 3 + 2, none⟩ = some (.int .i64 m[j].2.2) := fun s => (HK.out _ s.h).q2
               have hne : Nonempty (HeldIn W0) := ⟨⟨W0, Below.refl _ _⟩⟩
               refine wp_region_held W0 (Below.refl _ _) (by kernel_rfl) (by kernel_rfl) ?_
               repeat (go_big_quiet_step ((first | (go_at_call 69; exact held_of (HNear.out _)) | (go_at_call 85; exact held_of (HFol.out _)))))
               refine wpQuiet_nil ?_
               rintro _ ⟨s, rfl⟩
               have hbs := (HK.out _ s.h).bel
               generalize s.w = w1 at hbs ⊢
               go_wp2
               go_roundw
               case rel => exact ⟨j + 1 + 1, by omega, by go_num, HS.out, hbs⟩
               case measure => simp [intOf]; omega
             · have HC : Hid (mchk m = 5) := mchk_no (k := j + 1) h3 hlt (by unfold Sound; rw [HG.out, HGj.out]; rintro ⟨_, _, h⟩; exact g2 (h (by omega)))
               rw [show folB m[j] m[j + 1] = false from by rw [<- Bool.not_eq_true, folB_iff]; exact g2] at HFol
               clear hc hl n1 e1 hb g2
               go_wp2_with fail
               generalize wr.alloc (.cells #[.int .i64 m[j + 1].1, .int .i64 m[j + 1].2.1, .int .i64 m[j + 1].2.2] 35) = W0 at HK ⊢
               have f0 : ∀ s : HeldIn W0, s.w.cell? ⟨wr.heap.size, 0, none⟩ = some (.int .i64 m[j + 1].1) := fun s => (HK.out _ s.h).k0
               have f1 : ∀ s : HeldIn W0, s.w.cell? ⟨wr.heap.size, 1, none⟩ = some (.int .i64 m[j + 1].2.1) := fun s => (HK.out _ s.h).k1
               have f2 : ∀ s : HeldIn W0, s.w.cell? ⟨wr.heap.size, 2, none⟩ = some (.int .i64 m[j + 1].2.2) := fun s => (HK.out _ s.h).k2
               have q0 : ∀ s : HeldIn W0, s.w.cell? ⟨b, off + j * 3, none⟩ = some (.int .i64 m[j].1) := fun s => (HK.out _ s.h).q0
               have q1 : ∀ s : HeldIn W0, s.w.cell? ⟨b, off + j * 3 + 1, none⟩ = some (.int .i64 m[j].2.1) := fun s => (HK.out _ s.h).q1
               have q2 : ∀ s : HeldIn W0, s.w.cell? ⟨b, off + j * 3 + 2, none⟩ = some (.int .i64 m[j].2.2) := fun s => (HK.out _ s.h).q2
               have hne : Nonempty (HeldIn W0) := ⟨⟨W0, Below.refl _ _⟩⟩
               refine wp_region_held W0 (Below.refl _ _) (by kernel_rfl) (by kernel_rfl) ?_
               repeat (go_big_quiet_step ((first | (go_at_call 69; exact held_of (HNear.out _)) | (go_at_call 85; exact held_of (HFol.out _)))))
               refine wpQuiet_nil ?_
               rintro _ ⟨s, rfl⟩
               have hbs := (HK.out _ s.h).bel
               generalize s.w = w1 at hbs ⊢
               go_wp2
               go_ret
               exact ⟨ret_int HC.out.symm, hbs⟩
       · have HC : Hid (mchk m = 5) := mchk_no (k := k) h3 hlt (by unfold Sound; rw [HG.out]; rintro ⟨h, _, _⟩; exact n1 h)
         rw [show nr3 m[k].1 m[k].2.1 m[k].2.2 = false from by rw [<- Bool.not_eq_true, nr3_iff]; exact n1] at HNear
         clear hc hl n1 hb
         go_wp2_with fail
         generalize wr.alloc (.cells #[.int .i64 m[k].1, .int .i64 m[k].2.1, .int .i64 m[k].2.2] 35) = W0 at HK ⊢
         have f0 : ∀ s : HeldIn W0, s.w.cell? ⟨wr.heap.size, 0, none⟩ = some (.int .i64 m[k].1) := fun s => (HK.out _ s.h).k0
         have f1 : ∀ s : HeldIn W0, s.w.cell? ⟨wr.heap.size, 1, none⟩ = some (.int .i64 m[k].2.1) := fun s => (HK.out _ s.h).k1
         have f2 : ∀ s : HeldIn W0, s.w.cell? ⟨wr.heap.size, 2, none⟩ = some (.int .i64 m[k].2.2) := fun s => (HK.out _ s.h).k2
         have hne : Nonempty (HeldIn W0) := ⟨⟨W0, Below.refl _ _⟩⟩
         refine wp_region_held W0 (Below.refl _ _) (by kernel_rfl) (by kernel_rfl) ?_
         repeat (go_big_quiet_step ((first | (go_at_call 69; exact held_of (HNear.out _)) | (go_at_call 85; exact held_of (HFol.out _)))))
         refine wpQuiet_nil ?_
         rintro _ ⟨s, rfl⟩
         have hbs := (HK.out _ s.h).bel
         generalize s.w = w1 at hbs ⊢
         go_wp2
         go_ret
         exact ⟨ret_int HC.out.symm, hbs⟩
     · have hkl : k = m.length := by omega
       subst hkl
       have HC : Hid (mchk m = 0) := mchk_ok h3 HN.out
       go_wp2
       go_ret
       exact ⟨ret_int HC.out.symm, hb⟩
theorem getD_get {S : List Int} {i : Nat} (h : i < S.length) : S.getD i 0 = S[i] := by simp [List.getD_eq_getElem?_getD, h]
theorem cnt_index {S : List Int} (hS : S.Pairwise (· < ·)) (t : Int) (j : Nat) (hj : j < S.length) : S[j] <= t ↔ j < cnt S t := by
 induction S generalizing j with
 | nil => simp at hj
 | cons x S ih =>
   rw [List.pairwise_cons] at hS
   rw [cnt_cons]
   by_cases hx : x <= t
   · rw [if_pos hx]
     cases j with
     | zero => simp; omega
     | succ j =>
       have := ih hS.2 j (by simpa using hj)
       simp only [List.getElem_cons_succ]
       omega
   · rw [if_neg hx, cnt_none (fun y hy => by have := hS.1 y hy; omega)]
     have : x <= (x :: S)[j] := by
       cases j with
       | zero => simp
       | succ j =>
         simp only [List.getElem_cons_succ]
         have := hS.1 _ (List.getElem_mem (by simpa using hj : j < S.length)); omega
     omega
theorem has_same {l : List (Int × Int)} {s t : Int} (hst : s <= t) (h : ∀ x ∈ flat l, ¬ (s < x /\ x <= t)) : has l s = has l t := by
 induction l with
 | nil => rfl
 | cons p l ih =>
   rw [flat_cons] at h
   rw [has_cons, has_cons, ih (fun x hx => h x (by simp [hx]))]
   have h1 := h p.1 (by simp)
   have h2 := h p.2 (by simp)
   congr 1
   rw [Bool.eq_iff_iff]
   simp only [Bool.and_eq_true, decide_eq_true_eq]
   omega
structure MTurns (S : List Int) (f : Int -> Option Int) : Prop where
 same : ∀ s t, s <= t -> (∀ x ∈ S, ¬ (s < x /\ x <= t)) -> f s = f t
 low : ∀ t, (∀ x ∈ S, t < x) -> f t = none
 high : ∀ t, (∀ x ∈ S, x <= t) -> f t = none
theorem mseg_none {S : List Int} {f : Int -> Option Int} {i : Nat} {t : Int} (h : ∀ k, k < i -> ¬ (S.getD k 0 <= t /\ t < S.getD (k + 1) 0)) : mseg S f i t = none := by
 induction i with
 | zero => rfl
 | succ i ih => rw [mseg_succ, ih (fun k hk => h k (by omega)), if_neg (h i (by omega))]; rfl
theorem mseg_at {S : List Int} {f : Int -> Option Int} {i k : Nat} {t : Int} (hS : S.Pairwise (· < ·)) (hi : i < S.length) (hk : k < i) (h : S.getD k 0 <= t /\ t < S.getD (k + 1) 0) : mseg S f i t = f (S.getD k 0) := by
 rw [List.pairwise_iff_getElem] at hS
 have mono : ∀ a b, a <= b -> b < S.length -> S.getD a 0 <= S.getD b 0 := by
   intro a b hab hb
   rw [getD_get (by omega : a < S.length), getD_get hb]
   by_cases e : a = b
   · subst e; exact Int.le_refl _
   · exact Int.le_of_lt (hS a b (by omega) hb (by omega))
 induction i with
 | zero => omega
 | succ i ih =>
   rw [mseg_succ]
   by_cases e : k = i
   · subst e
     rw [mseg_none (fun j hj hc => ?_), if_pos h]
     · rfl
     · have := mono (j + 1) k (by omega) (by omega); omega
   · rw [ih (by omega) (by omega), if_neg (fun hc => ?_)]
     · cases f (S.getD k 0) <;> rfl
     · have := mono (k + 1) i (by omega) (by omega); omega
theorem mseg_turns {S : List Int} {f : Int -> Option Int} (hS : S.Pairwise (· < ·)) (h : MTurns S f) (t : Int) : mseg S f (S.length - 1) t = f t := by
 have hc := fun j hj => cnt_index hS t j hj
 rcases Nat.eq_zero_or_pos (cnt S t) with h0 | h0
 · rw [h.low t (fun x hx => by
     obtain ⟨j, hj, rfl⟩ := List.getElem_of_mem hx
     have := hc j hj; omega)]
   refine mseg_none fun k hk hh => ?_
   rw [getD_get (by omega : k < S.length)] at hh
   have := (hc k (by omega)).1 hh.1; omega
 rcases Nat.lt_or_ge (cnt S t) S.length with h1 | h1
 · have a1 := (hc (cnt S t - 1) (by omega)).2 (by omega)
   have a2 : ¬ S[cnt S t - 1 + 1] <= t := fun hh => by have := (hc (cnt S t - 1 + 1) (by omega)).1 hh; omega
   rw [mseg_at (k := cnt S t - 1) hS (by omega) (by omega) (by rw [getD_get (by omega : cnt S t - 1 < S.length), getD_get (by omega : cnt S t - 1 + 1 < S.length)]; omega), getD_get (by omega : cnt S t - 1 < S.length)]
   refine h.same _ t a1 fun x hx hcx => ?_
   obtain ⟨j, hj, rfl⟩ := List.getElem_of_mem hx
   have hS' := hS
   rw [List.pairwise_iff_getElem] at hS'
   by_cases hjk : j <= cnt S t - 1
   · by_cases e : j = cnt S t - 1
     · subst e; omega
     · have := hS' j (cnt S t - 1) hj (by omega) (by omega); omega
   · have := (hc j hj).1 hcx.2; omega
 · rw [h.high t (fun x hx => by
     obtain ⟨j, hj, rfl⟩ := List.getElem_of_mem hx
     have := hc j hj; omega)]
   refine mseg_none fun k hk hh => ?_
   rw [getD_get (by omega : k + 1 < S.length)] at hh
   have := (hc (k + 1) (by omega)).2 (by omega); omega
theorem inP_same {p : Int × Int × Int} {s t : Int} (hst : s <= t) (h1 : ¬ (s < p.1 /\ p.1 <= t)) (h2 : ¬ (s < p.2.1 /\ p.2.1 <= t)) : inP p s = inP p t := by
 rw [Bool.eq_iff_iff, inP_iff, inP_iff]; omega
theorem tel_same {m : List (Int × Int × Int)} {s t : Int} (hst : s <= t) (h : ∀ x ∈ turnsOf m, ¬ (s < x /\ x <= t)) : tel m s = tel m t := by
 induction m with
 | nil => rfl
 | cons p m ih =>
   have hp := mem_turnsOf (m := p :: m) (p := p) (by simp)
   rw [tel_cons, tel_cons, inP_same hst (h _ hp.1) (h _ hp.2), ih fun x hx => h x (by unfold turnsOf at hx ⊢; rw [List.flatMap_cons, List.mem_append]; exact .inr hx)]
theorem inP_low {p : Int × Int × Int} {t : Int} (h : t < p.1) : inP p t = false := by unfold inP; simp only [Bool.and_eq_false_iff, decide_eq_false_iff_not]; omega
theorem inP_high {p : Int × Int × Int} {t : Int} (h : p.2.1 <= t) : inP p t = false := by unfold inP; simp only [Bool.and_eq_false_iff, decide_eq_false_iff_not]; omega
theorem tel_low {m : List (Int × Int × Int)} {t : Int} (h : ∀ x ∈ turnsOf m, t < x) : tel m t = none := tel_none fun _ hp => inP_low (h _ (mem_turnsOf hp).1)
theorem tel_high {m : List (Int × Int × Int)} {t : Int} (h : ∀ x ∈ turnsOf m, x <= t) : tel m t = none := tel_none fun _ hp => inP_high (h _ (mem_turnsOf hp).2)
def putF (m : List (Int × Int × Int)) (p : Int × Int × Int) (t : Int) : Option Int := if inP p t then some p.2.2 else tel m t
theorem putF_turns {m : List (Int × Int × Int)} {p : Int × Int × Int} {S : List Int} (hm : ∀ x, x ∈ S ↔ x ∈ turnsOf m ++ [p.1, p.2.1]) : MTurns S (putF m p) := by
 have h1 : ∀ x ∈ turnsOf m, x ∈ S := fun x hx => (hm x).2 (by simp [hx])
 have h2 : p.1 ∈ S := (hm _).2 (by simp)
 have h3 : p.2.1 ∈ S := (hm _).2 (by simp)
 refine ⟨fun s t hst h => ?_, fun t h => ?_, fun t h => ?_⟩
 · unfold putF; rw [inP_same hst (h _ h2) (h _ h3), tel_same hst fun x hx => h x (h1 x hx)]
 · unfold putF; rw [inP_low (h _ h2), tel_low fun x hx => h x (h1 x hx)]; rfl
 · unfold putF; rw [inP_high (h _ h3), tel_high fun x hx => h x (h1 x hx)]; rfl
def onlyF (m : List (Int × Int × Int)) (l : List (Int × Int)) (b : Bool) (t : Int) : Option Int := if has l t = b then tel m t else none
theorem onlyF_turns {m : List (Int × Int × Int)} {l : List (Int × Int)} {b : Bool} {S : List Int} (hm : ∀ x, x ∈ S ↔ x ∈ turnsOf m ++ flat l) : MTurns S (onlyF m l b) := by
 have h1 : ∀ x ∈ turnsOf m, x ∈ S := fun x hx => (hm x).2 (by simp [hx])
 have h2 : ∀ x ∈ flat l, x ∈ S := fun x hx => (hm x).2 (by simp [hx])
 refine ⟨fun s t hst h => ?_, fun t h => ?_, fun t h => ?_⟩
 · unfold onlyF; rw [has_same hst fun x hx => h x (h2 x hx), tel_same hst fun x hx => h x (h1 x hx)]
 · unfold onlyF; rw [tel_low fun x hx => h x (h1 x hx)]; simp
 · unfold onlyF; rw [tel_high fun x hx => h x (h1 x hx)]; simp
def both (how x y : Int) : Int := if how = 1 then min x y else if how = 2 then max x y else x + y
def isHow (how : Int) : Bool := decide (how = 1 \/ how = 2 \/ how = 3)
theorem isHow_yes {how : Int} (h : how = 1 \/ how = 2 \/ how = 3) : isHow how = true := by unfold isHow; rw [decide_eq_true_eq]; exact h
theorem isHow_no {how : Int} (h : ¬ (how = 1 \/ how = 2 \/ how = 3)) : isHow how = false := by unfold isHow; rw [decide_eq_false_iff_not]; exact h
def wideB (x : Int) : Prop := -1000000000000 <= x /\ x <= 1000000000000
theorem wide_of_near {x : Int} (h : nearB x) : wideB x := by unfold nearB at h; unfold wideB; omega
def mrg (how : Int) : Option Int -> Option Int -> Option Int
 | none, y => y
 | some x, none => some x
 | some x, some y => some (both how x y)
def mergeF (a b : List (Int × Int × Int)) (how t : Int) : Option Int := mrg how (tel a t) (tel b t)
theorem mergeF_turns {a b : List (Int × Int × Int)} {how : Int} {S : List Int} (hm : ∀ x, x ∈ S ↔ x ∈ turnsOf a ++ turnsOf b) : MTurns S (mergeF a b how) := by
 have h1 : ∀ x ∈ turnsOf a, x ∈ S := fun x hx => (hm x).2 (by simp [hx])
 have h2 : ∀ x ∈ turnsOf b, x ∈ S := fun x hx => (hm x).2 (by simp [hx])
 refine ⟨fun s t hst h => ?_, fun t h => ?_, fun t h => ?_⟩
 · unfold mergeF; rw [tel_same hst fun x hx => h x (h1 x hx), tel_same hst fun x hx => h x (h2 x hx)]
 · unfold mergeF; rw [tel_low fun x hx => h x (h1 x hx), tel_low fun x hx => h x (h2 x hx)]; rfl
 · unfold mergeF; rw [tel_high fun x hx => h x (h1 x hx), tel_high fun x hx => h x (h2 x hx)]; rfl
theorem tl_tel {A S : List Int} {f : Int -> Option Int} {o : List (Int × Int × Int)} (hO : Ordered A S) (hf : MTurns S f) (T : Tl S f (S.length - 1) o) (t : Int) : tel o t = f t := by
 rw [T.pts, mseg_turns hO.inc hf]
structure Bx3 (w W : World) (x y z : Value) : Prop where
 c1 : W.cell? ⟨w.heap.size, 0, none⟩ = some x
 c2 : W.cell? ⟨w.heap.size + 1, 0, none⟩ = some y
 c3 : W.cell? ⟨w.heap.size + 1 + 1, 0, none⟩ = some z
 bel : Below w.heap.size w W
 lt : w.heap.size + 2 < W.heap.size
theorem bx3_start (w : World) (x y z : Value) (t1 t2 t3 : TypeId) : Bx3 w (((w.alloc (.cells #[x] t1)).alloc (.cells #[y] t2)).alloc (.cells #[z] t3)) x y z := by
 refine ⟨?_, ?_, ?_, ptw (pal _ _) (ptw (pal _ _) (pal _ _)), by simp⟩
 · rw [World.cell?_alloc_past _ _ _ (by simp; omega), World.cell?_alloc_past _ _ _ (by simp), World.cell?_alloc_at _ _ _ _ rfl]; rfl
 · rw [World.cell?_alloc_past _ _ _ (by simp), World.cell?_alloc_at _ _ _ _ (by simp)]; rfl
 · rw [World.cell?_alloc_at _ _ _ _ (by simp)]; rfl
theorem Bx3.below {w W W' : World} {x y z : Value} (h : Bx3 w W x y z) (hb : Below W.heap.size W W') : Bx3 w W' x y z := by
 have l := h.lt
 refine ⟨?_, ?_, ?_, ptw h.bel hb, Nat.lt_of_lt_of_le l hb.size⟩
 · rw [hb.cell (p := ⟨w.heap.size, 0, none⟩) (by show w.heap.size < _; omega)]; exact h.c1
 · rw [hb.cell (p := ⟨w.heap.size + 1, 0, none⟩) (by show w.heap.size + 1 < _; omega)]; exact h.c2
 · rw [hb.cell (p := ⟨w.heap.size + 1 + 1, 0, none⟩) (by show w.heap.size + 1 + 1 < _; omega)]; exact h.c3
theorem step_append_row {P : Program} (w : World) {ops : Array Oper} {o : Oper} {a : Act} {K : Act -> World -> Prop} {Q : Exit -> Act -> World -> Prop} {E : Prop} (hgd : o.guard = none) (s x : Operand) (t : TypeId)
   (ho : o.op = .call { callee := .builtin .append, args := #[s, x], argTypes := #[t, t] })
   (base : Nat) (e : TypeId) (i : TypeInfo) (z : Value) (size bytes : Nat) (ht : P.underlying t = some (.slice e)) (hi : P.info? e = some i) (hz : i.zero = some z)
   (hsize : i.size = size) (hby : i.bytes = bytes) (hzs : z.cells.size = size) (hsz : 0 < size)
   (g0 n c0 : Nat) (xs : List Value) (hs : a.eval s = .slice (some ⟨g0, 0, none⟩) n c0) (hown : w.ownsRow base e size (.slice (some ⟨g0, 0, none⟩) n c0) n xs)
   (ad : Addr) (m c : Nat) (news : List Value) (hx : a.eval x = .slice (some ad) m c) (hl : news.length = m * size) (hnews : ∀ j u, news[j]? = some u -> w.cell? (ad.add j) = some u) (h1 : ∀ u ∈ news, u.oneCell' = true)
   (h63 : n + m <= maxLen) (hbytes : (n + m) * bytes <= 140737488355328) (hbase : base <= w.heap.size)
   (h : ∀ g cap w', w'.ownsRow base e size (.slice (some ⟨g, 0, none⟩) (n + m) cap) (n + m) (xs ++ news) -> w.grownBy w' (some g0) -> K (a.put o.dst (.slice (some ⟨g, 0, none⟩) (n + m) cap)) w') :
   if Region.wanted o (yielded ops a.tmps) = true then Oper.wp P o a w K Q else E := by
 have hw : Region.wanted o (yielded ops a.tmps) = true := by simp [Region.wanted, hgd]
 rw [if_pos hw]
 obtain ⟨v', w', hr, h2, h3, h4⟩ := run_append_own (P := P) w base t o.type e i z size bytes ht hi hz hsize hby hzs hsz _ n xs hown ad m c news hl hnews h1 h63 hbytes hbase
 rcases h2.2 with ⟨hv, _⟩ | ⟨g, cap, cur, hv, _⟩
 · exact absurd (h4.1 hv).1 (by simp)
 · subst hv
   unfold Oper.wp execOp
   simp only [ho, resolve, invoke, builtin, Sem.run_bind, Sem.run_pure, Result.andThen_ok, List.map_toArray, List.map_cons, List.map_nil, hs, hx, hr]
   exact h g cap w' h2 h3
theorem mchk_bad {m : List (Int × Int × Int)} (h : ¬ mchk m = 0) : ∃ n, mchk m = n /\ (n = 2 \/ n = 5) := by
 rcases mchk_cases m with e | e | ⟨e, _⟩
 · exact ⟨2, e, .inl rfl⟩
 · exact ⟨5, e, .inr rfl⟩
 · exact absurd e h
theorem mchk_good {m : List (Int × Int × Int)} (h : mchk m = 0) : m.length <= 200 /\ MCan m /\ ∀ p ∈ m, NearP p := by
 rcases mchk_cases m with e | e | ⟨_, h1, h2⟩
 · omega
 · omega
 · exact ⟨h1, mcan_of_good h2, near_of_good h2⟩
theorem tel_near {m : List (Int × Int × Int)} (hn : ∀ p ∈ m, NearP p) {t v : Int} (h : tel m t = some v) : nearB v := by
 obtain ⟨p, hp, _, rfl⟩ := tel_mem h
 exact (hn p hp).2.2
theorem join_any (x y how : Int) (w : World) (hh : how = 1 \/ how = 2 \/ how = 3) (hx : wideB x) (hy : wideB y) :
   Calls Seq.prog 77 #[.int .i64 x, .int .i64 y, .int .i64 how] w fun e w' => e = .returned (.int .i64 (both how x y)) /\ w' = w := by
 unfold wideB at hx hy
 obtain ⟨x1, x2⟩ := hx
 obtain ⟨y1, y2⟩ := hy
 rcases hh with rfl | rfl | rfl
 · have HC : Hid (both 1 x y = min x y) := rfl
   go_enter Seq.func77, Tryz.ntmps77
   go_wp2
   all_goals go_ret
   all_goals exact ⟨ret_int (by first | (rw [HC.out]; done) | (rw [HC.out]; omega)), rfl⟩
 · have HC : Hid (both 2 x y = max x y) := rfl
   go_enter Seq.func77, Tryz.ntmps77
   go_wp2
   all_goals go_ret
   all_goals exact ⟨ret_int (by first | (rw [HC.out]; done) | (rw [HC.out]; omega)), rfl⟩
 · have HC : Hid (both 3 x y = x + y) := rfl
   go_enter Seq.func77, Tryz.ntmps77
   go_wp2
   all_goals go_ret
   all_goals exact ⟨ret_int (by first | (rw [HC.out]; done) | (rw [HC.out]; omega)), rfl⟩
theorem joins_any (how : Int) (w : World) :
   Calls Seq.prog 75 #[.int .i64 how] w fun e w' => e = .returned (.bool (isHow how)) /\ w' = w := by
 by_cases h1 : how = 1
 · have HC : Hid (isHow how = true) := isHow_yes (.inl h1)
   subst h1
   go_enter Seq.func75, Tryz.ntmps75
   go_wp2
   go_ret
   exact ⟨ret_bool HC.out.symm, rfl⟩
 · have d1 : (how == 1) = false := by simpa using h1
   by_cases h2 : how = 2
   · have HC : Hid (isHow how = true) := isHow_yes (.inr (.inl h2))
     subst h2
     clear d1 h1
     go_enter Seq.func75, Tryz.ntmps75
     go_wp2
     go_ret
     exact ⟨ret_bool HC.out.symm, rfl⟩
   · have d2 : (how == 2) = false := by simpa using h2
     by_cases h3 : how = 3
     · have HC : Hid (isHow how = true) := isHow_yes (.inr (.inr h3))
       subst h3
       clear d1 d2 h1 h2
       go_enter Seq.func75, Tryz.ntmps75
       go_wp2
       go_ret
       exact ⟨ret_bool HC.out.symm, rfl⟩
     · have d3 : (how == 3) = false := by simpa using h3
       have HC : Hid (isHow how = false) := isHow_no (by omega)
       clear h1 h2 h3
       go_enter Seq.func75, Tryz.ntmps75
       go_wp2
       go_ret
       exact ⟨ret_bool HC.out.symm, rfl⟩
set_option maxRecDepth 100000 in
set_option maxHeartbeats 2000000 in
theorem merge1_any (Ba Bb Bh : Nat) (how : Int) (hh : how = 1 \/ how = 2 \/ how = 3) (ao bo : Option Addr) (ca cb : Nat) (a b : List (Int × Int × Int)) (t : Int) (w : World) (hA : PcAt w ao a) (hB : PcAt w bo b) (la : a.length <= 200) (lb : b.length <= 200) (na : ∀ p ∈ a, NearP p) (nb : ∀ p ∈ b, NearP p)
   (c1 : w.cell? ⟨Ba, 0, none⟩ = some (.slice ao a.length ca)) (c2 : w.cell? ⟨Bb, 0, none⟩ = some (.slice bo b.length cb)) (c3 : w.cell? ⟨Bh, 0, none⟩ = some (.int .i64 how)) :
   Calls Seq.prog 76 #[.int .i64 t, .pointer (some ⟨Ba, 0, none⟩), .pointer (some ⟨Bb, 0, none⟩), .pointer (some ⟨Bh, 0, none⟩)] w fun e w' => (∃ x, e = .returned (.tuple #[.int .i64 x, .bool (mergeF a b how t).isSome]) /\ ∀ y, mergeF a b how t = some y -> x = y) /\ Below w.heap.size w w' := by
 have hHa := PAt_any ao ca a t w hA (by omega)
 have HHb : Hid (∀ W, Below w.heap.size w W -> Calls Seq.prog 74 #[.slice bo b.length cb, .int .i64 t] W fun e w' => e = .returned (.tuple #[.int .i64 ((tel b t).getD 0), .bool (tel b t).isSome]) /\ Below W.heap.size W w') := fun W h => PAt_any bo cb b t W (hB.below h) (by omega)
 have l2 := World.block_lt_of_cell? w _ c2
 have l3 := World.block_lt_of_cell? w _ c3
 simp only at l2 l3
 have HC2 : Hid (∀ W, Below w.heap.size w W -> W.cell? ⟨Bb, 0, none⟩ = some (.slice bo b.length cb) /\ W.cell? ⟨Bh, 0, none⟩ = some (.int .i64 how)) := fun W h => ⟨(h.cell (p := ⟨Bb, 0, none⟩) l2).trans c2, (h.cell (p := ⟨Bh, 0, none⟩) l3).trans c3⟩
 have hna : ∀ x, tel a t = some x -> nearB x := fun x h => tel_near na h
 have hnb : ∀ x, tel b t = some x -> nearB x := fun x h => tel_near nb h
 have HF : Hid (mergeF a b how t = mrg how (tel a t) (tel b t)) := rfl
 rw [HF.out]
 clear hA hB na nb c2 c3 HF
 cases hx : tel a t with
 | none =>
   simp only [hx, Option.getD_none, Option.isSome_none] at hHa
   cases hy : tel b t with
   | none =>
     simp only [hy, Option.getD_none, Option.isSome_none] at HHb
     clear hx hy hna hnb
     go_enter Seq.func76, Tryz.ntmps76
     go_wp2_with fail
     refine hHa.mono ?_
     rintro e w1 ⟨rfl, hb1⟩
     obtain ⟨d2, d3⟩ := HC2.out w1 hb1
     go_wp2_with fail
     refine (HHb.out w1 hb1).mono ?_
     rintro e w2 ⟨rfl, hb2⟩
     have hbb := ptw hb1 hb2
     clear hb1 hb2 d2
     go_wp2
     go_ret2
     exact ⟨⟨0, rfl, fun y h => by cases h⟩, hbb⟩
   | some y =>
     simp only [hy, Option.getD_some, Option.isSome_some] at HHb
     clear hx hy hna hnb
     go_enter Seq.func76, Tryz.ntmps76
     go_wp2_with fail
     refine hHa.mono ?_
     rintro e w1 ⟨rfl, hb1⟩
     obtain ⟨d2, d3⟩ := HC2.out w1 hb1
     go_wp2_with fail
     refine (HHb.out w1 hb1).mono ?_
     rintro e w2 ⟨rfl, hb2⟩
     have hbb := ptw hb1 hb2
     clear hb1 hb2 d2
     go_wp2
     go_ret2
     exact ⟨⟨y, rfl, fun z h => by cases h; rfl⟩, hbb⟩
 | some x =>
   simp only [hx, Option.getD_some, Option.isSome_some] at hHa
   cases hy : tel b t with
   | none =>
     simp only [hy, Option.getD_none, Option.isSome_none] at HHb
     clear hx hy hna hnb
     go_enter Seq.func76, Tryz.ntmps76
     go_wp2_with fail
     refine hHa.mono ?_
     rintro e w1 ⟨rfl, hb1⟩
     obtain ⟨d2, d3⟩ := HC2.out w1 hb1
     go_wp2_with fail
     refine (HHb.out w1 hb1).mono ?_
     rintro e w2 ⟨rfl, hb2⟩
     have hbb := ptw hb1 hb2
     clear hb1 hb2 d2
     go_wp2
     go_ret2
     exact ⟨⟨x, rfl, fun z h => by cases h; rfl⟩, hbb⟩
   | some y =>
     simp only [hy, Option.getD_some, Option.isSome_some] at HHb
     have hT := fun W => join_any x y how W hh (wide_of_near (hna x hx)) (wide_of_near (hnb y hy))
     have HR : Hid (mrg how (some x) (some y) = some (both how x y)) := rfl
     rw [HR.out]
     clear hx hy hna hnb HR
     generalize both how x y = q at hT ⊢
     go_enter Seq.func76, Tryz.ntmps76
     go_wp2_with fail
     refine hHa.mono ?_
     rintro e w1 ⟨rfl, hb1⟩
     obtain ⟨d2, d3⟩ := HC2.out w1 hb1
     go_wp2_with fail
     refine (HHb.out w1 hb1).mono ?_
     rintro e w2 ⟨rfl, hb2⟩
     have hbb := ptw hb1 hb2
     have d3' := (HC2.out w2 hbb).2
     clear hb1 hb2 d2 d3
     go_wp2_with (go_at_call 77; refine (hT _).mono ?_; rintro e w' ⟨rfl, rfl⟩)
     go_ret2
     exact ⟨⟨q, rfl, fun z h => by cases h; rfl⟩, hbb⟩
end Go.Proofs.YthgelfnflafoiabGreat.Q
