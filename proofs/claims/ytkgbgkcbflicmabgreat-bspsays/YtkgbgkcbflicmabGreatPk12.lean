/-
  The law BspSays holds.
-/
import Derived.Laws.StructEq
import Derived.Test.YtkgbgkcbflicmabGreatPk11
namespace Go.Proofs.YtkgbgkcbflicmabGreat.Q
open Sim (Seq.prog)
theorem pricZ_eq (p : Nat) : pricZ p = priceOf p := by funext a; rfl
theorem begF_eq (p : Nat) (fr : Int) : begF (p : Int) fr = begG p fr := by
 funext v
 unfold begF begG
 by_cases h : p = 3
 · rw [if_pos h, if_pos (by omega)]
 · rw [if_neg h, if_neg (by omega)]
theorem XX_succ (g : Gr) (p : Nat) (fr : Int) (r : Nat) (t : Int) : XX g p fr (r + 1) t = rnd (arcsL t g.lives g.edges) (priceOf p) (decide (p = 3)) (XX g p fr r t) := rfl
theorem plIs_iff {g : Gr} {p : Nat} {fr : Int} {t k : Nat} {x : List Int} : PlIs g p fr t x k ↔ x = XX g p fr k t /\ XX g p fr (k + 1) t = XX g p fr k t /\ ∀ j, j < k -> ¬ XX g p fr (j + 1) t = XX g p fr j t := by
 unfold PlIs
 rw [pricZ_eq, begF_eq]
 constructor
 · intro h
   exact ⟨h.is, by rw [XX_succ]; have := h.stop; rw [h.is] at this; exact this, h.on⟩
 · rintro ⟨h1, h2, h3⟩
   exact ⟨h1, by rw [h1]; exact h2, h3⟩
theorem least_nat (P : Nat -> Prop) : ∀ m, P m -> ∃ k, k <= m /\ P k /\ ∀ j, j < k -> ¬ P j := by
 intro m
 induction m using Nat.strongRecOn with
 | _ m ih =>
   intro h
   by_cases h1 : ∃ j, j < m /\ P j
   · obtain ⟨j, h2, h3⟩ := h1
     obtain ⟨k, k1, k2, k3⟩ := ih j h2 h3
     exact ⟨k, by omega, k2, k3⟩
   · exact ⟨m, Nat.le_refl _, h, fun j hj hp => h1 ⟨j, hj, hp⟩⟩
theorem plF_is {g : Gr} (h0 : gChk g = 0) (p : Nat) (fr : Int) (t : Nat) : ∃ k, plF g p fr t = (XX g p fr k t, k) /\ XX g p fr (k + 1) t = XX g p fr k t /\ (∀ j, j < k -> ¬ XX g p fr (j + 1) t = XX g p fr j t) /\ ∀ d, XX g p fr (k + d) t = XX g p fr k t := by
 have R := runsX h0 p fr (t : Int)
 obtain ⟨k, _, k2, k3⟩ := least_nat (fun r => XX g p fr (r + 1) t = XX g p fr r t) g.lives.length (R.still (by omega))
 exact ⟨k, plF_eq (plIs_iff.2 ⟨rfl, k2, k3⟩), k2, k3, R.stays k2⟩
theorem allR_is {g : Gr} (h0 : gChk g = 0) {p : Nat} {fr : Int} {r : Nat} (hA : ∀ t : Int, XX g p fr (r + 1) t = XX g p fr r t) (hB : r = 0 \/ ∃ t : Nat, (t : Int) < g.hor /\ ¬ XX g p fr (r - 1 + 1) t = XX g p fr (r - 1) t) : allR g p fr g.hor.toNat = (r : Int) := by
 have up : ∀ k : Nat, allR g p fr k <= (r : Int) := by
   intro k
   induction k with
   | zero => simp [allR]
   | succ k ih =>
     rw [allR]
     obtain ⟨m, e, e1, e2, _⟩ := plF_is h0 p fr k
     rw [e]
     have : m <= r := by
       rcases Nat.lt_or_ge r m with h | h
       · exact absurd (hA k) (e2 r h)
       · exact h
     simp only
     omega
 have lo : ∀ k t : Nat, t < k -> ((plF g p fr t).2 : Int) <= allR g p fr k := by
   intro k
   induction k with
   | zero => intro t h; omega
   | succ k ih =>
     intro t h
     rw [allR]
     by_cases e : t = k
     · subst e; omega
     · have := ih t (by omega); omega
 rcases hB with rfl | ⟨t, ht, hn⟩
 · have h1 := up g.hor.toNat
   have h2 : ∀ k : Nat, 0 <= allR g p fr k := by
     intro k
     induction k with
     | zero => simp [allR]
     | succ k ih => rw [allR]; omega
   have := h2 g.hor.toNat
   omega
 · by_cases hr : r = 0
   · subst hr; exact absurd (hA t) hn
   have h1 := up g.hor.toNat
   have h2 := lo g.hor.toNat t (by omega)
   obtain ⟨m, e, e1, e2, e3⟩ := plF_is h0 p fr t
   rw [e] at h2
   simp only at h2
   have : r <= m := by
     rcases Nat.lt_or_ge m r with h | h
     · have h5 := e3 (r - 1 + 1 - m)
       have h6 := e3 (r - 1 - m)
       rw [show m + (r - 1 + 1 - m) = r - 1 + 1 by omega] at h5
       rw [show m + (r - 1 - m) = r - 1 by omega] at h6
       exact absurd (h5.trans h6.symm) hn
     · exact h
   omega
theorem XX_hi {g : Gr} (h0 : gChk g = 0) (p : Nat) (fr : Int) (r : Nat) (t : Int) {v : Nat} (hv : v < g.lives.length) : (XX g p fr r t).getD v 0 <= 1099511627776 := by
 have h1 := (runsX h0 p fr t).down hv r 0
 have h2 := (first_hi (p := p) (fr := fr) (t := t) (gChk_right h0).lvs v hv).1.2
 simp only [Nat.zero_add] at h1
 omega
theorem mcan_before : ∀ {l : List (Int × Int × Int)} {p : Int × Int × Int}, MCan (l ++ [p]) -> ∀ q ∈ l, q.2.1 <= p.1
 | [], _, _, q, hq => by cases hq
 | a :: l, p, h, q, hq => by
   rcases List.mem_cons.1 hq with rfl | hq
   · exact mcan_low h p (by simp)
   · exact mcan_before h.2.2 q hq
theorem allP_is {g : Gr} (h0 : gChk g = 0) (p : Nat) (fr : Int) {v : Nat} (hv : v < g.lives.length) : ∀ k : Nat, MCan (allP g p fr v k) /\ (∀ q ∈ allP g p fr v k, q.2.1 <= (k : Int) /\ 0 <= q.1) /\ ∀ t : Int, tel (allP g p fr v k) t = if 0 <= t /\ t < (k : Int) then optI ((plF g p fr t.toNat).1.getD v 0) else none
 | 0 => ⟨trivial, fun q hq => (by cases hq), fun t => by rw [if_neg (by omega)]; rfl⟩
 | k + 1 => by
   obtain ⟨h1, h2, h3⟩ := allP_is h0 p fr hv k
   rw [allP]
   obtain ⟨m, e, _⟩ := plF_is h0 p fr k
   have hhi : (plF g p fr k).1.getD v 0 <= 1099511627776 := by rw [e]; exact XX_hi h0 p fr m k hv
   have ek : ∀ t : Int, t = (k : Int) -> (plF g p fr t.toNat).1.getD v 0 = (plF g p fr k).1.getD v 0 := fun t ht => by rw [ht, Int.toNat_natCast]
   generalize hx : (plF g p fr k).1.getD v 0 = x at *
   generalize allP g p fr v k = l at *
   by_cases hi : x = 1099511627776
   · rw [oneP_skip hi]
     refine ⟨h1, fun q hq => by have := h2 q hq; omega, fun t => ?_⟩
     rw [h3 t]
     by_cases e1 : 0 <= t /\ t < (k : Int)
     · rw [if_pos e1, if_pos (by omega)]
     · rw [if_neg e1]
       by_cases e2 : t = (k : Int)
       · rw [if_pos (by omega), ek t e2, hi]; rfl
       · rw [if_neg (by omega)]
   · have hxs : optI x = some x := by unfold optI; rw [if_pos (by omega)]
     have new : MCan (l ++ [((k : Int), (k : Int) + 1, x)]) -> (MCan (l ++ [((k : Int), (k : Int) + 1, x)]) /\ (∀ q ∈ l ++ [((k : Int), (k : Int) + 1, x)], q.2.1 <= ((k + 1 : Nat) : Int) /\ 0 <= q.1) /\ ∀ t : Int, tel (l ++ [((k : Int), (k : Int) + 1, x)]) t = if 0 <= t /\ t < ((k + 1 : Nat) : Int) then optI ((plF g p fr t.toNat).1.getD v 0) else none) := by
       intro hm
       refine ⟨hm, fun q hq => ?_, fun t => ?_⟩
       · rw [List.mem_append, List.mem_singleton] at hq
         rcases hq with hq | rfl
         · have := h2 q hq; omega
         · simp only; omega
       · by_cases e2 : t = (k : Int)
         · have i1 : inP ((k : Int), (k : Int) + 1, x) t = true := (inP_iff _ _).2 (by simp only; omega)
           rw [tel_append, h3 t, if_neg (show ¬ (0 <= t /\ t < (k : Int)) by omega), tel_cons, i1, if_pos (show 0 <= t /\ t < ((k + 1 : Nat) : Int) by omega), ek t e2, hxs]
           rfl
         · have i1 : inP ((k : Int), (k : Int) + 1, x) t = false := by rw [<- Bool.not_eq_true, inP_iff]; simp only; omega
           rw [tel_append, h3 t, tel_cons, i1]
           by_cases e1 : 0 <= t /\ t < (k : Int)
           · rw [if_pos e1, if_pos (show 0 <= t /\ t < ((k + 1 : Nat) : Int) by omega)]
             cases optI ((plF g p fr t.toNat).1.getD v 0) <;> rfl
           · rw [if_neg e1, if_neg (show ¬ (0 <= t /\ t < ((k + 1 : Nat) : Int)) by omega)]
             rfl
     rcases List.eq_nil_or_concat l with rfl | ⟨l', q, hlq⟩
     · rw [oneP_nil hi]
       refine new ?_
       rw [mcan_snoc]
       exact ⟨trivial, by simp only; omega, fun q hq => by simp at hq⟩
     · rw [List.concat_eq_append] at hlq
       subst hlq
       obtain ⟨qf, qt, qx⟩ := q
       have hq := h2 (qf, qt, qx) (by simp)
       simp only at hq
       by_cases hc : qt = (k : Int) /\ qx = x
       · obtain ⟨rfl, rfl⟩ := hc
         rw [oneP_more hi]
         have hall := h1
         rw [mcan_snoc] at h1
         refine ⟨?_, fun q hq => ?_, fun t => ?_⟩
         · rw [mcan_snoc]
           refine ⟨h1.1, by have := h1.2.1; simp only at this ⊢; omega, fun q hq => ?_⟩
           have := h1.2.2 q hq
           unfold Fol at this ⊢
           exact this
         · rw [List.mem_append, List.mem_singleton] at hq
           rcases hq with hq | rfl
           · have := h2 q (by simp [hq]); omega
           · simp only; have := h2 _ (List.mem_append_right l' (List.mem_singleton.2 rfl)); simp only at this; omega
         · have h4 := h3 t
           have hpos := h1.2.1
           simp only at hpos
           by_cases e2 : t = (k : Int)
           · have hlow : tel l' t = none := by
               refine tel_none (fun q hq => ?_)
               have := mcan_before hall q hq
               simp only at this
               rw [<- Bool.not_eq_true, inP_iff]
               omega
             have i1 : inP (qf, (k : Int) + 1, qx) t = true := (inP_iff _ _).2 (by simp only; omega)
             rw [tel_append, hlow, tel_cons, i1, if_pos (show 0 <= t /\ t < ((k + 1 : Nat) : Int) by omega), ek t e2, hxs]
             rfl
           · have e3 : inP (qf, (k : Int) + 1, qx) t = inP (qf, (k : Int), qx) t := by
               cases h5 : inP (qf, (k : Int), qx) t with
               | true => rw [inP_iff] at h5 ⊢; simp only at h5 ⊢; omega
               | false =>
                 rw [<- Bool.not_eq_true, inP_iff] at h5 ⊢
                 simp only at h5 ⊢; omega
             rw [tel_append, tel_cons] at h4
             rw [tel_append, tel_cons, e3, h4]
             by_cases e1 : 0 <= t /\ t < (k : Int)
             · rw [if_pos e1, if_pos (show 0 <= t /\ t < ((k + 1 : Nat) : Int) by omega)]
             · rw [if_neg e1, if_neg (show ¬ (0 <= t /\ t < ((k + 1 : Nat) : Int)) by omega)]
       · rw [oneP_new hi hc]
         refine new ?_
         rw [mcan_snoc]
         refine ⟨h1, by simp only; omega, fun q hq => ?_⟩
         rw [List.getLast?_append, List.getLast?_singleton] at hq
         simp only [Option.some_or, Option.some.injEq] at hq
         subst hq
         unfold Fol
         simp only
         by_cases e : qt = (k : Int)
         · exact .inr ⟨e, fun h => hc ⟨e, h⟩⟩
         · exact .inl (by omega)
open Go.RowKit
def frstM (g : Gr) (p : Nat) (fr : Int) (v : Nat) : List P3 := if p = 3 then [((g.lives.getD v (0, 0)).1, (g.lives.getD v (0, 0)).2, (v : Int))] else if (v : Int) = fr then [((g.lives.getD v (0, 0)).1, (g.lives.getD v (0, 0)).2, 0)] else []
theorem frst_told {g : Gr} (h0 : gChk g = 0) (p : Nat) (fr : Int) : ToldIs g p fr 0 (frstM g p fr) /\ ∀ v, v < g.lives.length -> Sm 12 (frstM g p fr v) := by
 have R := gChk_right h0
 have hn := R.lvs
 have hor := R.hor
 have life : ∀ v, v < g.lives.length -> (0 <= (g.lives.getD v (0, 0)).1 /\ (g.lives.getD v (0, 0)).1 < (g.lives.getD v (0, 0)).2 /\ (g.lives.getD v (0, 0)).2 <= 100) := fun v hv => by
   have e : g.lives.getD v (0, 0) = g.lives[v] := by rw [List.getD_eq_getElem?_getD, List.getElem?_eq_getElem hv]; rfl
   rw [e]
   have := R.life _ (List.getElem_mem hv)
   omega
 have one : ∀ v (x : Int), v < g.lives.length -> 0 <= x -> x <= 12 -> Sm 12 [((g.lives.getD v (0, 0)).1, (g.lives.getD v (0, 0)).2, x)] := fun v x hv h1 h2 => by
   have := life v hv
   refine ⟨⟨by simp only; omega, fun q hq => by simp at hq, trivial⟩, fun q hq => ?_, fun q hq => ?_⟩
   · rw [List.mem_singleton] at hq; subst hq; simp only; omega
   · rw [List.mem_singleton] at hq; subst hq; simp only; omega
 have sm : ∀ v, v < g.lives.length -> Sm 12 (frstM g p fr v) := fun v hv => by
   unfold frstM
   split
   · exact one v v hv (by omega) (by omega)
   · split
     · exact one v 0 hv (by omega) (by omega)
     · exact sm_nil 12
 refine ⟨fun v hv => ⟨(sm v hv).canon, fun t => ?_⟩, sm⟩
 have e : (XX g p fr 0 t).getD v 0 = if (aliveL t g.lives).getD v false = true then begG p fr v else 1099511627776 := firstL_getD _ _ v (by rw [aliveL_length]; exact hv)
 have ha : (aliveL t g.lives).getD v false = true ↔ (g.lives.getD v (0, 0)).1 <= t /\ t < (g.lives.getD v (0, 0)).2 := by
   have h1 := aliveB_at t g.lives v hv
   unfold aliveB at h1
   rw [Int.toNat_natCast] at h1
   rw [h1, hasB_iff, List.getD_eq_getElem?_getD, List.getElem?_eq_getElem hv]
   rfl
 have tl : ∀ x : Int, tel [((g.lives.getD v (0, 0)).1, (g.lives.getD v (0, 0)).2, x)] t = if (aliveL t g.lives).getD v false = true then some x else none := fun x => by
   rw [tel_cons, tel_nil]
   by_cases hx : (g.lives.getD v (0, 0)).1 <= t /\ t < (g.lives.getD v (0, 0)).2
   · rw [if_pos (ha.2 hx), (inP_iff _ _).2 hx]; rfl
   · rw [if_neg (fun h => hx (ha.1 h)), show inP ((g.lives.getD v (0, 0)).1, (g.lives.getD v (0, 0)).2, x) t = false from by rw [<- Bool.not_eq_true, inP_iff]; exact hx]; rfl
 show tel (frstM g p fr v) t = optI ((XX g p fr 0 t).getD v 0)
 rw [e]
 unfold frstM begG
 by_cases h3 : p = 3
 · rw [if_pos h3, tl, if_pos h3]
   split
   · unfold optI; rw [if_pos (by omega)]
   · rfl
 · rw [if_neg h3, if_neg h3]
   unfold fromF
   by_cases hf : (v : Int) = fr
   · rw [if_pos hf, tl, if_pos hf]
     split <;> rfl
   · rw [if_neg hf, if_neg hf, tel_nil]
     split <;> rfl
theorem stopHereB {p : Prop} (h : Hid p) : p := h
theorem cell_newB {W : World} {cs : Array Value} {T : TypeId} {b j : Nat} {x : Value} (hb : b = W.heap.size) (hx : cs[j]? = some x) : (W.alloc (.cells cs T)).cell? ⟨b, j, none⟩ = some x := by subst hb; simp [hx]
theorem one_piece (W : World) (f t x : Int) : (W.alloc (.cells #[.int .i64 f, .int .i64 t, .int .i64 x] 35)).ownsRow W.heap.size 35 3 (.slice (some ⟨W.heap.size, 0, none⟩) 1 1) 1 (enc3 [(f, t, x)]) :=
 ⟨by simp [enc3, flat3], .inr ⟨W.heap.size, 1, #[.int .i64 f, .int .i64 t, .int .i64 x], rfl, Nat.le_refl _, heap_alloc_new W _, Nat.le_refl _, by unfold maxLen; omega, rfl, by simp [enc3, flat3]⟩⟩
set_option maxRecDepth 100000 in
set_option maxHeartbeats 1000000 in
theorem bsFirst_any (g : Gr) (la ea : Option Addr) (lc ec p : Nat) (fr : Int) (w : World) (hG : GAt w la ea g) (h0 : gChk g = 0) :
   Calls Seq.prog 17 #[.agg #[.int .i64 g.hor, .slice la g.lives.length lc, .slice ea g.edges.length ec], .int .i64 p, .int .i64 fr] w fun r w' => ∃ go val T, r = .returned (.slice (some ⟨go, 0, none⟩) g.lives.length g.lives.length) /\ AM w' w.heap.size go g.lives.length val T /\ (∀ v, v < g.lives.length -> T v = frstM g p fr v) /\ Below w.heap.size w w' := by
 obtain ⟨i1, hi', hy0, hy1, hy2⟩ := info_parts Tryz.infoPcs
 have hn12 := (gChk_right h0).lvs
 obtain ⟨w1, hw1⟩ : ∃ x, x = w.alloc (.cells #[.int .i64 g.hor, .slice la g.lives.length lc, .slice ea g.edges.length ec] 25) := ⟨_, rfl⟩
 have B1 : GBox w w1 w.heap.size g la ea lc ec := by rw [hw1]; exact gbox_start w g la ea lc ec _
 have g1 := B1.c1
 have hs1 : w1.heap.size = w.heap.size + 1 := by rw [hw1]; simp
 have HG := hideg hG
 have HB1 := hideg B1
 have hw1s := hw1.symm
 clear hG h0 hw1 B1
 go_enter Seq.func17, Tryz.ntmps17
 go_wp2_with (at_make; refine wpList_make_full _ rfl _ _ 51 rfl w1.heap.size 32 i1 (.slice none 0 0) 1 ((Seq.pu 51).trans Tryz.underlying51) hi' hy0 hy1 .i64 .i64 _ _ g.lives.length rfl rfl rfl rfl (by rw [hy2]; omega) (by unfold maxLen; omega) (by omega) ?_; intro w0 hown0 hgrow0; refine stopHereB ?_)
 refine hideg ?_
 have HA0 := hideg (am_start hown0)
 have hb0 : Below w1.heap.size w1 w0 := (Below.refl w1.heap.size w1).grown hgrow0 (Nat.le_refl _) (fun k hk => by cases hk)
 have B0 := HB1.out.below hb0
 have g1' := B0.c1
 have HB0 := hideg hb0
 clear hown0 hgrow0 g1 hw1s hb0
 go_wp2_with fail
 clear g1' B0
 go_loopw [17] (fun i wr => ∃ (k : Nat) (val : Nat -> Value) (T : Nat -> List P3), k <= g.lives.length /\ i = .int .i64 k /\ AM wr w1.heap.size w1.heap.size g.lives.length val T /\ (∀ v, v < g.lives.length -> T v = if v < k then frstM g p fr v else []) /\ Below w1.heap.size w1 wr) (fun i _ => g.lives.length - (intOf i).toNat)
 case atStart => exact ⟨0, _, _, Nat.zero_le _, rfl, HA0.out, fun v hv => by simp, HB0.out⟩
 case round =>
   clear HA0 HB0
   obtain ⟨k, val, T, hk, rfl, hA, hI, hb⟩ := hrel
   by_cases hkl : k < g.lives.length
   · have hki : (k : Int) < (g.lives.length : Int) := by omega
     have hkw : IntKind.i64.wrap ((k : Int) + 1) = (k : Int) + 1 := wrap_nr _ (by omega) (by omega)
     have BR := HB1.out.below hb
     obtain ⟨lb, lof, rfl, hlb, l0, l1⟩ : ∃ b off, la = some ⟨b, off, none⟩ /\ b < wr.heap.size /\ (wr.cell? ⟨b, off + k * 2, none⟩ = some (.int .i64 g.lives[k].1) /\ wr.cell? ⟨b, off + k * 2 + 1, none⟩ = some (.int .i64 g.lives[k].2)) := by
       rcases (HG.out.below BR.bel).lv with h0 | ⟨b, off, rfl, hbr, hc⟩
       · rw [h0] at hkl; simp at hkl
       exact ⟨b, off, rfl, hbr, IvAt.get hkl hc⟩
     have hgd : g.lives.getD k (0, 0) = g.lives[k] := by rw [List.getD_eq_getElem?_getD, List.getElem?_eq_getElem hkl]; rfl
     have HF : Hid (frstM g p fr k = if p = 3 then [(g.lives[k].1, g.lives[k].2, (k : Int))] else if (k : Int) = fr then [(g.lives[k].1, g.lives[k].2, 0)] else []) := by show _ = _; unfold frstM; rw [hgd]
     have HA := hideg hA
     have HI := hideg hI
     have HB := hideg hb
     have hsz := hb.size
     generalize g.lives[k].1 = f1 at *
     generalize g.lives[k].2 = f2 at *
     obtain ⟨wa, hwa⟩ : ∃ x, x = wr.alloc (.cells #[.int .i64 f1, .int .i64 f2] 63) := ⟨_, rfl⟩
     have hba : Below wr.heap.size wr wa := by rw [hwa]; exact gal wr _
     have y0 : wa.cell? ⟨wr.heap.size, 0, none⟩ = some (.int .i64 f1) := by rw [hwa]; exact cell_newB rfl rfl
     have y1 : wa.cell? ⟨wr.heap.size, 1, none⟩ = some (.int .i64 f2) := by rw [hwa]; exact cell_newB rfl rfl
     have HNo : Hid (frstM g p fr k = [] -> ∃ val' T', AM wa w1.heap.size w1.heap.size g.lives.length val' T' /\ (∀ v, v < g.lives.length -> T' v = if v < k + 1 then frstM g p fr v else []) /\ Below w1.heap.size w1 wa) := by
       intro h0
       refine ⟨val, T, HA.out.below hba, fun v hv => ?_, HB.out.trans (hba.mono HB.out.size)⟩
       rw [HI.out v hv]
       by_cases e : v = k
       · subst e; rw [if_neg (by omega), if_pos (by omega), h0]
       · by_cases e2 : v < k
         · rw [if_pos e2, if_pos (by omega)]
         · rw [if_neg e2, if_neg (by omega)]
     have HYes : Hid (∀ x : Int, frstM g p fr k = [(f1, f2, x)] -> ∃ val' T', AM ((wa.alloc (.cells #[.int .i64 f1, .int .i64 f2, .int .i64 x] 35)).setCell ⟨w1.heap.size, k, none⟩ (.slice (some ⟨wa.heap.size, 0, none⟩) 1 1)) w1.heap.size w1.heap.size g.lives.length val' T' /\ (∀ v, v < g.lives.length -> T' v = if v < k + 1 then frstM g p fr v else []) /\ Below w1.heap.size w1 ((wa.alloc (.cells #[.int .i64 f1, .int .i64 f2, .int .i64 x] 35)).setCell ⟨w1.heap.size, k, none⟩ (.slice (some ⟨wa.heap.size, 0, none⟩) 1 1))) := by
       intro x h0
       have hb2 : Below wr.heap.size wr (wa.alloc (.cells #[.int .i64 f1, .int .i64 f2, .int .i64 x] 35)) := ptg hba (gal wa _)
       refine ⟨_, _, AM.set HA.out hkl hb2 HB.out.size (r := [(f1, f2, x)]) (owns_base2 (one_piece wa f1 f2 x) hba.size), fun v hv => ?_, (HB.out.trans (hb2.mono HB.out.size)).setCell (p := ⟨w1.heap.size, k, none⟩) (Nat.le_refl _) _⟩
       by_cases e : v = k
       · subst e; rw [updF_same, if_pos (by omega), h0]
       · rw [updF_far _ _ e, HI.out v hv]
         by_cases e2 : v < k
         · rw [if_pos e2, if_pos (by omega)]
         · rw [if_neg e2, if_neg (by omega)]
     have hck := fun o => (HA.out.below (ptg hba (gal wa o))).out hkl
     have hfz := fun o => World.ownsRow.frozenAt (ownsRow_below hA.own (ptg hba (gal wa o))) k
     rw [hs1] at hck hfz HYes
     have hwas := hwa.symm
     clear hA hI hb BR hwa hba hgd
     by_cases p3 : p = 3
     · subst p3
       have HE := hideg (HYes.out (k : Int) (by rw [HF.out, if_pos rfl]))
       go_wp2_with fail
       obtain ⟨val', T', a1, a2, a3⟩ := HE.out
       exact ⟨⟨k + 1, val', T', by omega, by go_num, by rw [hs1]; exact a1, a2, by rw [hs1]; exact a3⟩, by simp [intOf]; omega⟩
     · have p3i : ((p : Int) == 3) = false := by simp; omega
       by_cases pf : (k : Int) = fr
       · have HE := hideg (HYes.out 0 (by rw [HF.out, if_neg p3, if_pos pf]))
         have pfi : ((k : Int) == fr) = true := by simpa using pf
         clear pf
         go_wp2_with fail
         obtain ⟨val', T', a1, a2, a3⟩ := HE.out
         exact ⟨⟨k + 1, val', T', by omega, by go_num, by rw [hs1]; exact a1, a2, by rw [hs1]; exact a3⟩, by simp [intOf]; omega⟩
       · have HE := hideg (HNo.out (by rw [HF.out, if_neg p3, if_neg pf]))
         have pfi : ((k : Int) == fr) = false := by simpa using pf
         clear pf
         go_wp2_with fail
         obtain ⟨val', T', a1, a2, a3⟩ := HE.out
         exact ⟨⟨k + 1, val', T', by omega, by go_num, a1, a2, a3⟩, by simp [intOf]; omega⟩
   · have hke : k = g.lives.length := by omega
     subst hke
     have HA := hideg hA
     have HB := hideg (HB1.out.below hb).bel
     have HI : Hid (∀ v, v < g.lives.length -> T v = frstM g p fr v) := fun v hv => by rw [hI v hv, if_pos hv]
     have HW := hideg HB1.out.bel.size
     clear hA hb hI
     go_wp2
     go_ret
     exact ⟨w.heap.size + 1, _, _, rfl, by rw [<- hs1]; exact HA.out.base HW.out, HI.out, HB.out⟩
set_option maxRecDepth 100000 in
set_option maxHeartbeats 1000000 in
theorem cloneV_any (base go n cap : Nat) (val : Nat -> Value) (T : Nat -> List P3) (w : World) (hA : AM w base go n val T) (hn : n <= 12) :
   Calls Seq.prog 19 #[.slice (some ⟨go, 0, none⟩) n cap] w fun e w' => ∃ g2 c2, e = .returned (.slice (some ⟨g2, 0, none⟩) n c2) /\ w'.ownsRow w.heap.size 32 1 (.slice (some ⟨g2, 0, none⟩) n c2) n ((List.range n).map val) /\ Below w.heap.size w w' := by
 obtain ⟨i0, hi, hz0, hz1, hz2⟩ := info_parts Tryz.infoPcs
 have q22 : ∀ (w : World) (a : Option Addr) (n c n' c' : Nat), (binOp .eql 51 (.slice a n c) (.slice none n' c')).run Seq.prog w = .ok (.bool a.isNone) w := fun w a n c n' c' => Lib.run_eql_slice_nil w _ _ a n c n' c' ((Seq.pu 51).trans Tryz.underlying51)
 have hc : ∀ o, ∀ j u, ((List.range n).map val)[j]? = some u -> (w.alloc o).cell? ((⟨go, 0, none⟩ : Addr).add j) = some u := fun o j u h => by
   have hj : j < n := by have := (List.getElem?_eq_some_iff.1 h).1; simpa using this
   have e : u = val j := by simp [hj] at h; exact h.symm
   subst e
   have := (hA.below (gal w o)).out hj
   by_cases h0 : j = 0
   · subst h0; simpa [Addr.add] using this
   · simpa [Addr.add, h0] using this
 have HC := hideg hc
 have hone : ∀ u ∈ (List.range n).map val, u.oneCell' = true := by
   intro u hu
   rw [List.mem_map] at hu
   obtain ⟨z, hz, rfl⟩ := hu
   obtain ⟨a, c, h1, _⟩ := pcAt_of_owns (hA.inn z (List.mem_range.1 hz))
   rw [h1]; rfl
 have HEL : Hid (((List.range n).map val).length = n * 1) := by show _ = _; simp
 have HONE := hideg hone
 clear hc hone hA
 go_enter Seq.func19, Tryz.ntmps19
 go_wp2_with (at_builtin; refine wpList_append_own _ rfl _ _ 51 rfl w.heap.size 32 i0 (.slice none 0 0) 1 24 ((Seq.pu 51).trans Tryz.underlying51) hi hz0 hz1 hz2 rfl (by decide) _ _ _ rfl (World.ownsRow_made w #[] 0 (Nat.le_refl _) (Nat.zero_le _) rfl) ⟨go, 0, none⟩ n cap ((List.range n).map val) rfl HEL.out (HC.out _) HONE.out (by unfold maxLen; omega) (by omega) (by simp) ?_; intro v' w1 hown hgrow hnil)
 have hb : Below w.heap.size w w1 := ((Below.refl _ w).alloc (Nat.le_refl _) _).grown hgrow (by simp) (fun k hk => by cases hk; exact Nat.le_refl _)
 have R : w1.ownsRow w.heap.size 32 1 v' n ((List.range n).map val) := by simpa using hown
 have hno : v' ≠ .slice none 0 0 := fun e => by have := (hnil.1 e).1; cases this
 obtain ⟨g2, c2, rfl⟩ : ∃ g2 c2, v' = .slice (some ⟨g2, 0, none⟩) n c2 := by
   rcases R.2 with ⟨h, _⟩ | ⟨g2, c2, cur, h, _⟩
   · exact absurd h hno
   · exact ⟨g2, c2, h⟩
 clear hown hgrow hnil hno
 go_wp2
 go_ret
 exact ⟨g2, c2, rfl, R, hb⟩
theorem alive_out {g : Gr} (h0 : gChk g = 0) {t : Int} (ht : t < 0 \/ g.hor <= t) (v : Nat) : (aliveL t g.lives).getD v false = false := by
 have R := gChk_right h0
 by_cases hv : v < g.lives.length
 · have h1 := aliveB_at t g.lives v hv
   unfold aliveB at h1
   rw [Int.toNat_natCast] at h1
   rw [h1]
   have := R.life _ (List.getElem_mem hv)
   exact hasB_no (by omega)
 · rw [List.getD_eq_getElem?_getD, List.getElem?_eq_none (by rw [aliveL_length]; omega)]; rfl
theorem arcs_out {g : Gr} (h0 : gChk g = 0) {t : Int} (ht : t < 0 \/ g.hor <= t) : arcsL t g.lives g.edges = [] := by
 rw [List.eq_nil_iff_forall_not_mem]
 intro a ha
 obtain ⟨e, _, l, _, _, _, h1, _⟩ := (mem_arcs h0).1 ha
 unfold aliveB at h1
 rw [alive_out h0 ht] at h1
 cases h1
theorem XX_out {g : Gr} (h0 : gChk g = 0) {t : Int} (ht : t < 0 \/ g.hor <= t) (p : Nat) (fr : Int) : ∀ r, XX g p fr r t = XX g p fr 0 t
 | 0 => rfl
 | r + 1 => by
   have ih := XX_out h0 ht p fr r
   unfold XX at ih ⊢
   rw [arcs_out h0 ht] at ih ⊢
   show rnd [] (priceOf p) (decide (p = 3)) (rnds [] (priceOf p) (decide (p = 3)) r (firstL (aliveL t g.lives) (begG p fr))) = _
   rw [ih]
   rfl
theorem tel_out {g : Gr} (h0 : gChk g = 0) {t : Int} (ht : t < 0 \/ g.hor <= t) (p : Nat) (fr : Int) (r : Nat) {v : Nat} (hv : v < g.lives.length) : optI ((XX g p fr r t).getD v 0) = none := by
 rw [XX_out h0 ht p fr r]
 have e : (XX g p fr 0 t).getD v 0 = if (aliveL t g.lives).getD v false = true then begG p fr v else 1099511627776 := firstL_getD _ _ v (by rw [aliveL_length]; exact hv)
 rw [e, alive_out h0 ht]
 rfl
theorem told_all {g : Gr} (h0 : gChk g = 0) {p : Nat} {fr : Int} {r : Nat} {T : Nat -> List (Int × Int × Int)} (hT : ToldIs g p fr r T) (hS : ∀ t : Int, XX g p fr (r + 1) t = XX g p fr r t) {v : Nat} (hv : v < g.lives.length) : T v = allP g p fr v g.hor.toNat := by
 have hh := (gChk_right h0).hor
 obtain ⟨a1, _, a3⟩ := allP_is h0 p fr hv g.hor.toNat
 refine mcan_unique (hT v hv).1 a1 (fun t => ?_)
 rw [(hT v hv).2 t, a3 t]
 show optI ((XX g p fr r t).getD v 0) = _
 by_cases ht : 0 <= t /\ t < g.hor
 · rw [if_pos (by omega)]
   obtain ⟨k, e, k1, k2, k3⟩ := plF_is h0 p fr t.toNat
   have et : ((t.toNat : Nat) : Int) = t := by omega
   rw [et] at e k1 k2 k3
   rw [e]
   have : XX g p fr r t = XX g p fr k t := by
     by_cases hk : k <= r
     · have := k3 (r - k)
       rw [show k + (r - k) = r by omega] at this
       exact this
     · exact absurd (hS t) (k2 r (by omega))
   rw [this]
 · rw [if_neg (by omega)]
   exact tel_out h0 (by omega) p fr r hv
theorem news_moves {g : Gr} (h0 : gChk g = 0) {p : Nat} {fr : Int} {r : Nat} {N' : Nat -> List (Int × Int × Int)} (hN : NewsIs g p fr (r + 1) N') {v : Nat} (hv : v < g.lives.length) (he : N' v ≠ []) : ∃ t : Nat, (t : Int) < g.hor /\ ¬ XX g p fr (r + 1) t = XX g p fr r t := by
 cases hm : N' v with
 | nil => exact absurd hm he
 | cons q m =>
   have hc := (hN v hv).1
   rw [hm] at hc
   have h1 := (hN v hv).2 q.1
   rw [hm, tel_cons, if_pos (by unfold inP; have := hc.1; simp; omega)] at h1
   have h2 : newsOf (XX g p fr r q.1) (XX g p fr (r + 1) q.1) v = some q.2.2 := h1.symm
   have hne : ¬ XX g p fr (r + 1) q.1 = XX g p fr r q.1 := fun e => by
     unfold newsOf at h2
     rw [e, if_neg (by omega)] at h2
     cases h2
   by_cases ht : q.1 < 0 \/ g.hor <= q.1
   · exact absurd ((XX_out h0 ht p fr (r + 1)).trans (XX_out h0 ht p fr r).symm) hne
   · refine ⟨q.1.toNat, by omega, ?_⟩
     rw [show ((q.1.toNat : Nat) : Int) = q.1 by omega]
     exact hne
theorem take_mrg (a b : Option Int) : mrg 1 a b = takeF a b := by
 cases a <;> cases b <;> first | rfl | (unfold mrg takeF both; simp; omega)
theorem flat_len {α β : Type} (f : α -> List β) (c : Nat) : ∀ l : List α, (∀ a ∈ l, (f a).length <= c) -> (l.flatMap f).length <= l.length * c
 | [], _ => by simp
 | a :: l, h => by
   have h1 := flat_len f c l (fun b hb => h b (List.mem_cons_of_mem _ hb))
   have h2 := h a (List.mem_cons_self ..)
   rw [List.flatMap_cons, List.length_append, List.length_cons, Nat.succ_mul]
   omega
theorem pthsL_len (g : Gr) (p : Nat) (e : Ed) (l : Lg) : (pthsL g p e l).length <= 2 := by
 unfold pthsL
 split
 · simp
 · split <;> simp
theorem paths_len {g : Gr} (h0 : gChk g = 0) (p : Nat) : (pathsF g p).length <= 360 := by
 have R := gChk_right h0
 have h1 := flat_len (fun e : Ed => e.2.2.flatMap fun l => pthsL g p e l) 12 g.edges (fun e he => by
   have h2 := flat_len (fun l => pthsL g p e l) 2 e.2.2 (fun l _ => pthsL_len g p e l)
   have h3 := (R.ends e he).2.2
   omega)
 have h4 := R.eds
 unfold pathsF
 omega
open Crw (Ready DeadAt zqs)
open Sim (Zt)
theorem owns_farB {w w' : World} {bp e size n go : Nat} {v : Value} {xs : List Value} (h : w.ownsRow bp e size v n xs) (hf : FarB go w w') (hg : go < bp) : w'.ownsRow bp e size v n xs := by
 refine ⟨h.1, ?_⟩
 rcases h.2 with h2 | ⟨g, cap, cur, rfl, hb, hh, h3⟩
 · exact .inl h2
 · exact .inr ⟨g, cap, cur, rfl, hb, (hf.block g (Array.getElem?_eq_some_iff.1 hh).1 (by omega)).trans hh, h3⟩
structure CInv (g : Gr) (p : Nat) (fr : Int) (w0 : World) (base go bp : Nat) (pv : Value) (r gon nc : Nat) (σ : World) : Prop where
 bel : Below w0.heap.size w0 σ
 lo : w0.heap.size <= base
 told : ∃ val T, AM σ base go g.lives.length val T /\ ToldIs g p fr r T /\ ∀ v, v < g.lives.length -> Sm (12 + 1000 * (r : Int)) (T v)
 news : ∃ val N, NwAt σ gon g.lives.length nc val N /\ NewsIs g p fr r N /\ ∀ v, v < g.lives.length -> Sm (12 + 1000 * (r : Int)) (N v)
 paths : σ.ownsRow bp 78 5 pv (pathsF g p).length (encPs (pathsF g p))
 far : go < bp
 mov : r = 0 \/ ∃ t : Nat, (t : Int) < g.hor /\ ¬ XX g p fr (r - 1 + 1) t = XX g p fr (r - 1) t
 few : r <= g.lives.length
theorem news_of {g : Gr} (h0 : gChk g = 0) {p : Nat} {fr : Int} {r W : Nat} {T N H N' : Nat -> List P3} {M : Nat -> Nat -> List P3} {B B' : Int} (hW : 1 <= W) (hr : r <= 1000000) (hT : ToldIs g p fr r T) (hN : NewsIs g p fr r N)
   (hM : ∀ j, j < W -> ∀ v, v < g.lives.length -> Sm B (M j v) /\ ∀ t, tel (M j v) t = sndF N (j : Int) (W : Int) (pathsF g p) (pathsF g p).length v t) (hH : ∀ v, v < g.lives.length -> Sm B (H v) /\ ∀ t, tel (H v) t = togF M W v t) (hN' : ∀ v, v < g.lives.length -> Sm B' (N' v) /\ ∀ t, tel (N' v) t = lessF (tel (T v) t) (tel (H v) t)) : NewsIs g p fr (r + 1) N' :=
 round_next h0 hr hT (heard_is h0 hW hN (fun j hj v hv t => (hM j hj v hv).2 t) (fun v hv => (hH v hv).1.canon) (fun v hv => (hH v hv).2)) (fun v hv => (hN' v hv).1.canon) (fun v hv => (hN' v hv).2)
theorem CInv.next {g : Gr} (h0 : gChk g = 0) {p : Nat} {fr : Int} {w0 σ σ4 σ5 : World} {base go bp go2 base2 : Nat} {pv : Value} {r gon nc : Nat} {T N' T' : Nat -> List P3} {val2 val' : Nat -> Value} (I : CInv g p fr w0 base go bp pv r gon nc σ) (hb4 : Below σ.heap.size σ σ4)
   (hT : ToldIs g p fr r T) (hN : NewsIs g p fr (r + 1) N') (hNs : ∀ v, v < g.lives.length -> Sm (12 + 1000 * (r : Int) + 1000) (N' v)) (hne : ¬ ∀ v, v < g.lives.length -> N' v = []) (A5 : AM σ5 base go g.lives.length val' T') (hT' : ∀ v, v < g.lives.length -> Sm (12 + 1000 * (r : Int) + 1000) (T' v) /\ ∀ t, tel (T' v) t = mrg 1 (tel (T v) t) (tel (N' v) t)) (A6 : AM σ5 base2 go2 g.lives.length val2 N') (hb5 : Below base σ4 σ5) (hf : FarB go σ4 σ5) :
   CInv g p fr w0 base go bp pv (r + 1) go2 g.lives.length σ5 := by
 obtain ⟨v, hv, hv2⟩ : ∃ v, v < g.lives.length /\ N' v ≠ [] := Classical.byContradiction fun h => hne fun v hv => Classical.byContradiction fun h2 => h ⟨v, hv, h2⟩
 have e : (12 + 1000 * (r : Int) + 1000) = 12 + 1000 * ((r + 1 : Nat) : Int) := by omega
 rw [e] at hNs hT'
 refine ⟨(I.bel.trans (hb4.mono I.bel.size)).trans (hb5.mono I.lo), I.lo, ⟨val', T', A5, told_next h0 hT hN (fun v hv => (hT' v hv).1.canon) (fun v hv t => by rw [(hT' v hv).2 t, take_mrg]), fun v hv => (hT' v hv).1⟩, ⟨val2, N', A6.nw, hN, hNs⟩, owns_farB (ownsRow_below I.paths hb4) hf I.far, I.far, .inr ?_, ?_⟩
 · rw [show r + 1 - 1 = r from rfl]
   exact news_moves h0 hN hv hv2
 · have := news_few h0 hN hv hv2
   omega
theorem CInv.first {g : Gr} (h0 : gChk g = 0) {p : Nat} {fr : Int} {w0 σ : World} {base go bp : Nat} {pv : Value} {gon nc bn : Nat} {val : Nat -> Value} {T : Nat -> List P3} (bel : Below w0.heap.size w0 σ) (lo : w0.heap.size <= base) (A : AM σ base go g.lives.length val T) (hT : ∀ v, v < g.lives.length -> T v = frstM g p fr v) (hN : σ.ownsRow bn 32 1 (.slice (some ⟨gon, 0, none⟩) g.lives.length nc) g.lives.length ((List.range g.lives.length).map val)) (hP : σ.ownsRow bp 78 5 pv (pathsF g p).length (encPs (pathsF g p))) (far : go < bp) :
   CInv g p fr w0 base go bp pv 0 gon nc σ := by
 obtain ⟨f1, f2⟩ := frst_told h0 p fr
 have t1 : ToldIs g p fr 0 T := fun v hv => by rw [hT v hv]; exact f1 v hv
 have t2 : ∀ v, v < g.lives.length -> Sm (12 + 1000 * ((0 : Nat) : Int)) (T v) := fun v hv => by rw [hT v hv]; exact (f2 v hv).mono (by omega)
 exact ⟨bel, lo, ⟨val, T, A, t1, t2⟩, ⟨val, T, ⟨⟨bn, hN⟩, fun v hv => ⟨base, A.inn v hv⟩⟩, t1, t2⟩, hP, far, .inl rfl, Nat.zero_le _⟩
def PathsOk (g : Gr) (la ea : Option Addr) (lc ec p : Nat) : Prop :=
 ∀ w', GAt w' la ea g -> Calls Seq.prog 18 #[.agg #[.int .i64 g.hor, .slice la g.lives.length lc, .slice ea g.edges.length ec], .int .i64 p] w' fun e w'' => ∃ v, e = .returned v /\ w''.ownsRow w'.heap.size 78 5 v (pathsF g p).length (encPs (pathsF g p)) /\ Below w'.heap.size w' w''
set_option maxRecDepth 100000 in
set_option maxHeartbeats 2000000 in
theorem bsCombined_ok (g : Gr) (la ea : Option Addr) (lc ec p W : Nat) (fr : Int) (w : World) (hG : GAt w la ea g) (hE : askE g p fr = 0) (h0 : gChk g = 0) (hW : 1 <= W /\ W <= 64) (hPath : PathsOk g la ea lc ec p) :
   Calls Seq.prog 11 #[.agg #[.int .i64 g.hor, .slice la g.lives.length lc, .slice ea g.edges.length ec], .int .i64 p, .int .i64 fr, .int .i64 W] w fun e w' => (∃ go val T r, e = .returned (.tuple #[.slice (some ⟨go, 0, none⟩) g.lives.length g.lives.length, .int .i64 r, .int .i64 0]) /\ AM w' w.heap.size go g.lives.length val T /\ (∀ v, v < g.lives.length -> T v = allP g p fr v g.hor.toNat) /\ r = allR g p fr g.hor.toNat /\ Below w.heap.size w w') \/ (¬ Zt zqs w.tape /\ ∃ ch, e = .panicked ch /\ DeadAt w') := by
 obtain ⟨w1, hw1⟩ : ∃ x, x = w.alloc (.cells #[.int .i64 g.hor, .slice la g.lives.length lc, .slice ea g.edges.length ec] 25) := ⟨_, rfl⟩
 have B0 : GBox w w1 w.heap.size g la ea lc ec := by rw [hw1]; exact gbox_start w g la ea lc ec 25
 have hn12 := (gChk_right h0).lvs
 have h1 := bsCheck_any g la ea lc ec p fr _ (hG.below B0.bel)
 rw [hE] at h1
 have HG := hideg hG
 have HB1 := hideg B0
 have H0 := hideg h0
 have HPt := hideg hPath
 have HW := hideg hW
 have g0 := B0.c0
 have g1 := B0.c1
 have g2 := B0.c2
 have hw1s := hw1.symm
 have d1 : decide ((W : Int) < 1) = false := by simp; omega
 have d2 : decide ((64 : Int) < W) = false := by simp; omega
 clear hG B0 hw1 hE h0 hPath hW
 go_enter Seq.func11, Tryz.ntmps11
 go_wp2_with fail
 refine h1.mono ?_
 rintro e w2 ⟨rfl, hb2⟩
 have B2 := HB1.out.below hb2
 clear h1 hw1s g0 g1 g2
 have g0 := B2.c0
 have g1 := B2.c1
 have g2 := B2.c2
 go_wp2_with fail
 refine (bsFirst_any g la ea lc ec p fr _ (HG.out.below B2.bel) H0.out).mono ?_
 rintro e w3 ⟨go, val, T, rfl, A3, hT, hb3⟩
 have B3 := B2.below hb3
 clear g0 g1 g2
 have g0 := B3.c0
 have g1 := B3.c1
 have g2 := B3.c2
 go_wp2_with fail
 refine (HPt.out _ (HG.out.below B3.bel)).mono ?_
 rintro e w4 ⟨pv, rfl, hP4, hb4⟩
 have A4 := A3.below hb4
 go_wp2_with fail
 refine (cloneV_any _ go _ _ val T w4 A4 hn12).mono ?_
 rintro e w5 ⟨gon, nc, rfl, hN5, hb5⟩
 have I0 : CInv g p fr w w2.heap.size go w3.heap.size pv 0 gon nc w5 := CInv.first H0.out (ptg (B3.below hb4).bel hb5) (B2.bel.size) (A4.below hb5) hT hN5 (ownsRow_below hP4 hb5) ((World.ownsRow.lt A3.own go rfl).2)
 have HI0 := hideg I0
 have HWs := hideg B2.bel.size
 clear g0 g1 g2 I0 A4 hN5 hP4 hb5 hb4 hb3 hb2 A3 hT B2 B3 HB1
 go_wp2_with fail
 go_loopw [14, 15, 16] (fun nv rd _ wr => ∃ r gon nc : Nat, nv = .slice (some ⟨gon, 0, none⟩) g.lives.length nc /\ rd = .int .i64 (r : Int) /\ CInv g p fr w w2.heap.size go w3.heap.size pv r gon nc wr) (fun _ rd _ _ => g.lives.length - (intOf rd).toNat)
 case atStart => exact ⟨0, gon, nc, rfl, rfl, HI0.out⟩
 case round =>
   obtain ⟨r, gon1, nc1, rfl, rfl, I⟩ := hrel
   have hr12 : r <= 12 := Nat.le_trans I.few hn12
   obtain ⟨valT, T1, AT, hT1, sT⟩ := I.told
   obtain ⟨valN, N1, AN, hN1, sN⟩ := I.news
   have HI := hideg I
   have HT1 := hideg hT1
   have HN1 := hideg hN1
   have hgo := (World.ownsRow.lt AT.own go rfl).2
   clear HI0 hT1 hN1
   go_wp2_with fail
   refine (bsSendAll_any wr (B := 12 + 1000 * (r : Int)) (by omega) hn12 HW.out (Nat.le_trans (paths_len H0.out p) (by omega)) AN I.paths (fun π hπ => paths_good H0.out hπ) sN).mono ?_
   clear I
   rintro e w6 (⟨ao, M, rfl, hBx, hM, hb6⟩ | ⟨hz, ch, rfl, hd⟩)
   · go_wp2_with fail
     refine (bsTogether_any ao W W g.lives.length M (12 + 1000 * (r : Int) + 1000) (by omega) hn12 HW.out.2 w6 hBx (fun j hj v hv => (hM j hj v hv).1)).mono ?_
     rintro e w7 ⟨val7, H7, rfl, A7, hH7, hb7⟩
     go_wp2_with fail
     refine (bsLess_any (some ⟨go, 0, none⟩) (some ⟨w6.heap.size, 0, none⟩) _ _ _ T1 H7 (12 + 1000 * (r : Int) + 1000) (by omega) hn12 w7 (AT.read.below (ptg hb6 hb7)) A7.read (fun v hv => (sT v hv).mono (by omega)) (fun v hv => (hH7 v hv).1)).mono ?_
     rintro e w8 ⟨val8, N8, rfl, A8, hN8, hb8⟩
     have hNw := news_of H0.out HW.out.1 (by omega) HT1.out HN1.out hM hH7 hN8
     go_wp2_with fail
     refine (bsEmpty_any _ _ _ N8 w8 A8.read hn12).mono ?_
     rintro e w9 ⟨rfl, hb9⟩
     have hb69 : Below wr.heap.size wr w9 := ptg (ptg (ptg hb6 hb7) hb8) hb9
     have hgo7 : go < w7.heap.size := Nat.lt_of_lt_of_le hgo (ptg hb6 hb7).size
     by_cases hne : ∀ v, v < g.lives.length -> N8 v = []
     · have hnb : noneB g.lives.length N8 = true := by unfold noneB; exact decide_eq_true hne
       rw [hnb]
       have hst := news_empty H0.out hNw hne
       have HF : Hid (AM w9 w.heap.size go g.lives.length valT T1 /\ (∀ v, v < g.lives.length -> T1 v = allP g p fr v g.hor.toNat) /\ (r : Int) = allR g p fr g.hor.toNat /\ Below w.heap.size w w9) := ⟨(AT.below hb69).base HWs.out, fun v hv => told_all H0.out HT1.out hst hv, (allR_is H0.out hst HI.out.mov).symm, HI.out.bel.trans (hb69.mono HI.out.bel.size)⟩
       clear hst hne hNw hM hH7 hN8 A7 A8 hBx hb6 hb7 hb8 hb9 hb69 sT sN AT AN
       go_wp2
       refine bodyPost_ret (v := .tuple #[.slice (some ⟨go, 0, none⟩) g.lives.length g.lives.length, .int .i64 (r : Int), .int .i64 0]) (by simp [results, Tryz.results11, go_sem]) rfl (.inl ⟨go, valT, T1, r, rfl, HF.out.1, HF.out.2.1, HF.out.2.2.1, HF.out.2.2.2⟩)
     · have hnb : noneB g.lives.length N8 = false := by unfold noneB; exact decide_eq_false hne
       rw [hnb]
       go_wp2_with fail
       refine (bsTake_any w2.heap.size go g.lives.length _ w7.heap.size w7.heap.size _ valT val8 T1 N8 (12 + 1000 * (r : Int) + 1000) (by omega) hn12 w9 (AT.below hb69) (A8.below hb9) hgo7 (fun v hv => (sT v hv).mono (by omega)) (fun v hv => (hN8 v hv).1)).mono ?_
       rintro e w10 ⟨rfl, val', T', A10, hT', A11, hb10, hf10⟩
       have I1 := CInv.next H0.out HI.out hb69 HT1.out hNw (fun v hv => (hN8 v hv).1) hne A10 hT' A11 hb10 hf10
       have hfw := I1.few
       have HI1 := hideg I1
       clear I1 hNw hM hH7 hN8 A7 A8 hBx hb6 hb7 hb8 hb9 hb69 sT sN AT AN A10 A11 hT' hb10 hf10
       have hw1' : IntKind.i64.wrap ((r : Int) + 1) = (r : Int) + 1 := by rw [IntKind.wrap_i64]; omega
       go_wp2_with fail
       exact ⟨⟨r + 1, _, _, rfl, by go_num, HI1.out⟩, by simp [intOf]; omega⟩
   · exact ⟨rfl, .inr ⟨fun h => hz (by rw [HI.out.bel.tape]; exact h), ch, rfl, hd⟩⟩
set_option maxRecDepth 100000 in
set_option maxHeartbeats 1000000 in
theorem bsCombined_err (g : Gr) (la ea : Option Addr) (lc ec : Nat) (p fr W : Int) (w : World) (hG : GAt w la ea g) (hE : askE g p fr ≠ 0) :
   Calls Seq.prog 11 #[.agg #[.int .i64 g.hor, .slice la g.lives.length lc, .slice ea g.edges.length ec], .int .i64 p, .int .i64 fr, .int .i64 W] w fun e w' => e = .returned (.tuple #[.slice none 0 0, .int .i64 0, .int .i64 (askE g p fr)]) /\ Below w.heap.size w w' := by
 obtain ⟨w1, hw1⟩ : ∃ x, x = w.alloc (.cells #[.int .i64 g.hor, .slice la g.lives.length lc, .slice ea g.edges.length ec] 25) := ⟨_, rfl⟩
 have B0 : GBox w w1 w.heap.size g la ea lc ec := by rw [hw1]; exact gbox_start w g la ea lc ec 25
 have h1 := bsCheck_any g la ea lc ec p fr _ (hG.below B0.bel)
 generalize askE g p fr = x at *
 have HB1 := hideg B0
 have g0 := B0.c0
 have g1 := B0.c1
 have g2 := B0.c2
 have hw1s := hw1.symm
 have e1 : (x == 0) = false := by simpa using hE
 clear hG B0 hw1
 go_enter Seq.func11, Tryz.ntmps11
 go_wp2_with fail
 refine h1.mono ?_
 rintro e w2 ⟨rfl, hb2⟩
 have HF := hideg (HB1.out.below hb2).bel
 clear h1 hw1s g0 g1 g2 hb2 HB1
 go_wp2
 exact bodyPost_ret (v := .tuple #[.slice none 0 0, .int .i64 0, .int .i64 x]) (by simp [results, Tryz.results11, go_sem]) rfl ⟨rfl, HF.out⟩
set_option maxRecDepth 100000 in
set_option maxHeartbeats 1000000 in
theorem bsCombined_arg (g : Gr) (la ea : Option Addr) (lc ec : Nat) (p fr W : Int) (w : World) (hG : GAt w la ea g) (hE : askE g p fr = 0) (hW : W < 1 \/ 64 < W) :
   Calls Seq.prog 11 #[.agg #[.int .i64 g.hor, .slice la g.lives.length lc, .slice ea g.edges.length ec], .int .i64 p, .int .i64 fr, .int .i64 W] w fun e w' => e = .returned (.tuple #[.slice none 0 0, .int .i64 0, .int .i64 1]) /\ Below w.heap.size w w' := by
 obtain ⟨w1, hw1⟩ : ∃ x, x = w.alloc (.cells #[.int .i64 g.hor, .slice la g.lives.length lc, .slice ea g.edges.length ec] 25) := ⟨_, rfl⟩
 have B0 : GBox w w1 w.heap.size g la ea lc ec := by rw [hw1]; exact gbox_start w g la ea lc ec 25
 have h1 := bsCheck_any g la ea lc ec p fr _ (hG.below B0.bel)
 rw [hE] at h1
 have HB1 := hideg B0
 have g0 := B0.c0
 have g1 := B0.c1
 have g2 := B0.c2
 have hw1s := hw1.symm
 clear hG B0 hw1
 by_cases hl : W < 1
 · have d1 : decide (W < 1) = true := by simpa using hl
   go_enter Seq.func11, Tryz.ntmps11
   go_wp2_with fail
   refine h1.mono ?_
   rintro e w2 ⟨rfl, hb2⟩
   have HF := hideg (HB1.out.below hb2).bel
   clear h1 hw1s g0 g1 g2 hb2 HB1
   go_wp2
   exact bodyPost_ret (v := .tuple #[.slice none 0 0, .int .i64 0, .int .i64 1]) (by simp [results, Tryz.results11, go_sem]) rfl ⟨rfl, HF.out⟩
 · have d1 : decide (W < 1) = false := by simpa using hl
   have d2 : decide (64 < W) = true := by simp; omega
   go_enter Seq.func11, Tryz.ntmps11
   go_wp2_with fail
   refine h1.mono ?_
   rintro e w2 ⟨rfl, hb2⟩
   have HF := hideg (HB1.out.below hb2).bel
   clear h1 hw1s g0 g1 g2 hb2 HB1
   go_wp2
   exact bodyPost_ret (v := .tuple #[.slice none 0 0, .int .i64 0, .int .i64 1]) (by simp [results, Tryz.results11, go_sem]) rfl ⟨rfl, HF.out⟩
set_option maxRecDepth 100000 in
set_option maxHeartbeats 1000000 in
theorem bsRun_err (g : Gr) (la ea : Option Addr) (lc ec : Nat) (p fr : Int) (w : World) (hG : GAt w la ea g) (hE : askE g p fr ≠ 0) :
   Calls Seq.prog 10 #[.agg #[.int .i64 g.hor, .slice la g.lives.length lc, .slice ea g.edges.length ec], .int .i64 p, .int .i64 fr] w fun e w' => e = .returned (.tuple #[.slice none 0 0, .int .i64 0, .int .i64 (askE g p fr)]) /\ Below w.heap.size w w' := by
 obtain ⟨w1, hw1⟩ : ∃ x, x = w.alloc (.cells #[.int .i64 g.hor, .slice la g.lives.length lc, .slice ea g.edges.length ec] 25) := ⟨_, rfl⟩
 have B0 : GBox w w1 w.heap.size g la ea lc ec := by rw [hw1]; exact gbox_start w g la ea lc ec 25
 have h1 := bsCombined_err g la ea lc ec p fr 1 _ (hG.below B0.bel) hE
 have HB1 := hideg B0
 have g0 := B0.c0
 have g1 := B0.c1
 have g2 := B0.c2
 have hw1s := hw1.symm
 clear hG B0 hw1
 go_enter Seq.func10, Tryz.ntmps10
 go_wp2_with fail
 refine h1.mono ?_
 rintro e w2 ⟨rfl, hb2⟩
 have HF := hideg (HB1.out.below hb2).bel
 clear h1 hw1s g0 g1 g2 hb2 HB1
 go_wp2
 exact bodyPost_ret (v := .tuple #[.slice none 0 0, .int .i64 0, .int .i64 (askE g p fr)]) (by simp [results, Tryz.results10, go_sem]) rfl ⟨rfl, HF.out⟩
set_option maxRecDepth 100000 in
set_option maxHeartbeats 1000000 in
theorem bsRun_ok (g : Gr) (la ea : Option Addr) (lc ec p : Nat) (fr : Int) (w : World) (hG : GAt w la ea g) (hE : askE g p fr = 0) (h0 : gChk g = 0) (hPath : PathsOk g la ea lc ec p) :
   Calls Seq.prog 10 #[.agg #[.int .i64 g.hor, .slice la g.lives.length lc, .slice ea g.edges.length ec], .int .i64 p, .int .i64 fr] w fun e w' => (∃ go val T r, e = .returned (.tuple #[.slice (some ⟨go, 0, none⟩) g.lives.length g.lives.length, .int .i64 r, .int .i64 0]) /\ AM w' w.heap.size go g.lives.length val T /\ (∀ v, v < g.lives.length -> T v = allP g p fr v g.hor.toNat) /\ r = allR g p fr g.hor.toNat /\ Below w.heap.size w w') \/ (¬ Zt zqs w.tape /\ ∃ ch, e = .panicked ch /\ DeadAt w') := by
 obtain ⟨w1, hw1⟩ : ∃ x, x = w.alloc (.cells #[.int .i64 g.hor, .slice la g.lives.length lc, .slice ea g.edges.length ec] 25) := ⟨_, rfl⟩
 have B0 : GBox w w1 w.heap.size g la ea lc ec := by rw [hw1]; exact gbox_start w g la ea lc ec 25
 have h1 := bsCombined_ok g la ea lc ec p 1 fr _ (hG.below B0.bel) hE h0 (by omega) hPath
 have HB1 := hideg B0
 have g0 := B0.c0
 have g1 := B0.c1
 have g2 := B0.c2
 have hw1s := hw1.symm
 clear hG B0 hw1 hE h0 hPath
 go_enter Seq.func10, Tryz.ntmps10
 go_wp2_with fail
 refine h1.mono ?_
 rintro e w2 (⟨go, val, T, r, rfl, A2, hT, hr, hb2⟩ | ⟨hz, ch, rfl, hd⟩)
 · have HF := hideg (HB1.out.below hb2).bel
   have HA := hideg (A2.base HB1.out.bel.size)
   have HT := hideg hT
   have HR := hideg hr
   clear h1 hw1s g0 g1 g2 hb2 HB1 A2 hT hr
   go_wp2
   exact bodyPost_ret (v := .tuple #[.slice (some ⟨go, 0, none⟩) g.lives.length g.lives.length, .int .i64 r, .int .i64 0]) (by simp [results, Tryz.results10, go_sem]) rfl (.inl ⟨go, val, T, r, rfl, HA.out, HT.out, HR.out, HF.out⟩)
 · exact ⟨rfl, .inr ⟨fun h => hz (by rw [HB1.out.bel.tape]; exact h), ch, rfl, hd⟩⟩
theorem neq_pc (x y : Int × Int × Int) (w : World) : (binOp .neq 35 (.agg #[.int .i64 x.1, .int .i64 x.2.1, .int .i64 x.2.2]) (.agg #[.int .i64 y.1, .int .i64 y.2.1, .int .i64 y.2.2])).run Seq.prog w = .ok (.bool (!(x.1 == y.1 && (x.2.1 == y.2.1 && x.2.2 == y.2.2)))) w := by
 have u3 := ((Seq.pu 3).trans Tryz.underlying3)
 have a3 := (fun w => (Seq.ag 3 w).trans (Tryz.isAgg3 w))
 have z3 := (fun w => (Seq.so 3 w).trans (Tryz.sizeOf3 w))
 have hS : Seq.prog.underlying 35 = some (.struct (Seq.prog.fieldsOf 35)) := by kernel_rfl
 have hp : Seq.prog.stoodInHeld 35 = false := by kernel_rfl
 rw [run_neq_struct, show (10000 : Nat) = 9999 + 1 from rfl, run_equalIn_agg w 9999 35 _ _ hS hp]
 simp only [Program.fieldsOf, ((Seq.pu 35).trans Tryz.underlying35)]
 go_simp
 by_cases h1 : x.fst = y.fst <;> by_cases h2 : x.snd.fst = y.snd.fst <;> by_cases h3 : x.snd.snd = y.snd.snd <;> simp [h1, h2, h3]
set_option maxHeartbeats 2000000 in
theorem Equal3_any (ao bo : Option Addr) (ca cb : Nat) (a b : List (Int × Int × Int)) (w : World) (hA : PcAt w ao a) (hB : PcAt w bo b) (hl : a.length <= 9223372036854775807) :
   Calls Seq.prog 9 #[.slice ao a.length ca, .slice bo b.length cb] w fun e w' => e = .returned (.bool (decide (a = b))) /\ Below w.heap.size w w' := by
 by_cases hlen : a.length = b.length
 · have hm : Seq.prog.eqGuardType Seq.prog.depth 35 = false := by kernel_rfl
   have HLN : Hid (a.length = b.length) := hlen
   rw [<- hlen]
   have hne : ((a.length : Int) != (a.length : Int)) = false := by simp
   clear hlen
   go_enter Seq.func9, Tryz.ntmps9
   go_wp2
   go_loopw [5, 13] (fun _ i wr => ∃ k : Nat, k <= a.length /\ i = .int .i64 k /\ a.take k = b.take k /\ Below w.heap.size w wr) (fun _ i _ => a.length - (intOf i).toNat)
   case atStart => exact ⟨0, Nat.zero_le _, rfl, rfl, Below.refl _ _⟩
   case round =>
     obtain ⟨k, hk, rfl, hh, hb⟩ := hrel
     have HH : Hid (a.take k = b.take k) := hh
     clear hh
     by_cases hlt : k < a.length
     · have hlt' : k < b.length := by have := HLN.out; omega
       rcases hA.below hb with h0 | ⟨b1, o1, rfl, hb1, hc1⟩
       · subst h0; simp at hlt
       rcases hB.below hb with h0 | ⟨b2, o2, rfl, hb2, hc2⟩
       · subst h0; simp at hlt'
       obtain ⟨c0, c1, c2⟩ := PcAt.get hlt hc1
       obtain ⟨d0, d1, d2⟩ := PcAt.get hlt' hc2
       have nq := neq_pc a[k] b[k]
       clear hc1 hc2 hA hB
       by_cases g : a[k] = b[k]
       · have e1 : (a[k].1 == b[k].1) = true := by rw [g]; simp
         have e2 : (a[k].2.1 == b[k].2.1) = true := by rw [g]; simp
         have e3 : (a[k].2.2 == b[k].2.2) = true := by rw [g]; simp
         have HC : Hid (a.take (k + 1) = b.take (k + 1)) := by show _ = _; rw [take_succ_get a k hlt, take_succ_get b k hlt', HH.out, g]
         rw [e1, e2, e3] at nq
         clear g e1 e2 e3
         go_wp2
         go_quiet (fail)
         go_wp2
         go_roundw
         case rel => exact ⟨k + 1, by omega, by go_num, HC.out, below_drewN hb _⟩
         case measure => simp [intOf]; omega
       · have e1 : (a[k].1 == b[k].1 && (a[k].2.1 == b[k].2.1 && a[k].2.2 == b[k].2.2)) = false := by
           rw [<- Bool.not_eq_true, Bool.and_eq_true, Bool.and_eq_true, beq_iff_eq, beq_iff_eq, beq_iff_eq]
           exact fun ⟨h, h', h''⟩ => g (Prod.ext h (Prod.ext h' h''))
         have HC : Hid (decide (a = b) = false) := by
           show _ = _
           rw [decide_eq_false_iff_not]
           intro h; subst h; exact g rfl
         rw [e1] at nq
         clear g e1
         go_wp2
         go_quiet (fail)
         go_wp2
         go_ret
         exact ⟨ret_bool HC.out.symm, below_drewN hb _⟩
     · have hkl : k = a.length := by omega
       have HC : Hid (decide (a = b) = true) := by
         show _ = _
         have := HH.out
         rw [hkl, List.take_length, HLN.out, List.take_length] at this
         rw [this]; simp
       go_wp2
       go_ret
       exact ⟨ret_bool HC.out.symm, hb⟩
 · have hne : ((a.length : Int) != (b.length : Int)) = true := by simp; omega
   have HC : Hid (decide (a = b) = false) := by
     show _ = _
     rw [decide_eq_false_iff_not]
     intro h; subst h; exact hlen rfl
   clear hlen
   go_enter Seq.func9, Tryz.ntmps9
   go_wp2
   go_ret
   exact ⟨ret_bool HC.out.symm, Below.refl _ _⟩
theorem owns_len {w : World} {base e size : Nat} {v : Value} {n : Nat} {xs : List Value} (h : w.ownsRow base e size v n xs) : n <= 9223372036854775807 := by
 rcases h.2 with ⟨_, h0⟩ | ⟨g, cap, cur, _, _, _, h3, h4, _⟩
 · omega
 · unfold maxLen at h4; omega
set_option maxRecDepth 100000 in
set_option maxHeartbeats 1000000 in
theorem eqRows_any (c : FuncId) (eg : ∀ args w, (callFunc c args).run Seq.prog w = .ok (.enter c args) w)
   (hc : ∀ ao bo ca cb (a b : List P3) W, PcAt W ao a -> PcAt W bo b -> a.length <= 9223372036854775807 -> Calls Seq.prog c #[.slice ao a.length ca, .slice bo b.length cb] W fun e w' => e = .returned (.bool (decide (a = b))) /\ Below W.heap.size W w')
   {b1 b2 go go2 n : Nat} {val val2 : Nat -> Value} {T T2 : Nat -> List P3} (w : World) (A : AM w b1 go n val T) (A2 : AM w b2 go2 n val2 T2) (hT : ∀ v, v < n -> T v = T2 v) :
   Calls Seq.prog 7 #[.slice (some ⟨go, 0, none⟩) n n, .slice (some ⟨go2, 0, none⟩) n n, .func (.func c) #[] #[]] w fun e w' => e = .returned (.bool true) /\ Below w.heap.size w w' := by
 have hn := owns_len A.own
 have HA := hideg A
 have HA2 := hideg A2
 have HT := hideg hT
 have HC := hideg hc
 have dn : ((n : Int) != (n : Int)) = false := by simp
 clear A A2 hT hc
 go_enter Seq.func7, Tryz.ntmps7
 go_wp2_with fail
 go_loopw [17] (fun i wr => ∃ k : Nat, k <= n /\ i = .int .i64 k /\ Below w.heap.size w wr) (fun i _ => n - (intOf i).toNat)
 case atStart => exact ⟨0, Nat.zero_le _, rfl, Below.refl _ _⟩
 case round =>
   obtain ⟨k, hk, rfl, hb⟩ := hrel
   by_cases hkl : k < n
   · have hki : (k : Int) < (n : Int) := by omega
     have hkw : IntKind.i64.wrap ((k : Int) + 1) = (k : Int) + 1 := wrap_nr _ (by omega) (by omega)
     have R1 := HA.out.below hb
     have R2 := HA2.out.below hb
     have c1 := R1.out hkl
     have c2 := R2.out hkl
     obtain ⟨ao, ca, e1, p1⟩ := pcAt_of_owns (R1.inn k hkl)
     obtain ⟨bo, cb, e2, p2⟩ := pcAt_of_owns (R2.inn k hkl)
     rw [e1] at c1
     rw [e2] at c2
     have hl := owns_len (R1.inn k hkl)
     have hcl := HC.out ao bo ca cb (T k) (T2 k) wr p1 p2 hl
     rw [show decide (T k = T2 k) = true from decide_eq_true (HT.out k hkl)] at hcl
     generalize T k = x at *
     generalize T2 k = y at *
     have HB := hideg hb
     clear R1 R2 e1 e2 p1 p2 hb
     go_wp2_with fail
     refine hcl.mono ?_
     rintro e w3 ⟨rfl, hb3⟩
     have HB3 := hideg (ptg HB.out hb3)
     clear hcl hb3 c1 c2
     go_wp2
     go_roundw
     case rel => exact ⟨k + 1, by omega, by go_num, HB3.out⟩
     case measure => simp [intOf]; omega
   · have HB := hideg hb
     clear hb
     go_wp2
     go_ret
     exact ⟨rfl, HB.out⟩
set_option maxRecDepth 100000 in
theorem eqRows_nil (c : FuncId) (w : World) : Calls Seq.prog 7 #[.slice none 0 0, .slice none 0 0, .func (.func c) #[] #[]] w fun e w' => e = .returned (.bool true) /\ w' = w := by
 go_enter Seq.func7, Tryz.ntmps7
 go_wp2_with fail
 go_loopw [17] (fun i wr => i = .int .i64 0 /\ wr = w) (fun _ _ => 0)
 case atStart => exact ⟨rfl, rfl⟩
 case round =>
   obtain ⟨rfl, rfl⟩ := hrel
   go_wp2
   go_ret
   exact ⟨rfl, rfl⟩
theorem cell_newP {W : World} {cs : Array Value} {T : TypeId} {b j : Nat} {x : Value} (hb : b = W.heap.size) (hx : cs[j]? = some x) : (W.alloc (.cells cs T)).cell? ⟨b, j, none⟩ = some x := by subst hb; simp [hx]
theorem frozen_newP {W : World} {cs : Array Value} {T : TypeId} {b j : Nat} (hb : b = W.heap.size) : (W.alloc (.cells cs T)).frozen? ⟨b, j, none⟩ = false := by subst hb; simp
theorem set5P {w W : World} (h : Below w.heap.size w W) {b : Nat} (hb : w.heap.size <= b) (x0 x1 x2 x3 x4 : Value) (o : Obj) : Below w.heap.size w ((((((W.setCell ⟨b, 0, none⟩ x0).setCell ⟨b, 1, none⟩ x1).setCell ⟨b, 2, none⟩ x2).setCell ⟨b, 3, none⟩ x3).setCell ⟨b, 4, none⟩ x4).alloc o) := by
 have h5 := ((((h.setCell (p := ⟨b, 0, none⟩) hb x0).setCell (p := ⟨b, 1, none⟩) hb x1).setCell (p := ⟨b, 2, none⟩) hb x2).setCell (p := ⟨b, 3, none⟩) hb x3).setCell (p := ⟨b, 4, none⟩) hb x4
 exact h5.alloc h5.size o
structure PBx (w W : World) (A B : Nat) (l1 l2 l4 : Int) : Prop where
 e0 : W.cell? ⟨w.heap.size + 1, 0, none⟩ = some (.int .i64 (A : Int))
 e1 : W.cell? ⟨w.heap.size + 1, 1, none⟩ = some (.int .i64 (B : Int))
 l0 : W.cell? ⟨w.heap.size + 1 + 1, 0, none⟩ = some (.int .i64 l1)
 l1 : W.cell? ⟨w.heap.size + 1 + 1, 1, none⟩ = some (.int .i64 l2)
 l3 : W.cell? ⟨w.heap.size + 1 + 1, 3, none⟩ = some (.int .i64 l4)
 r : ∀ j, j < 5 -> W.cell? ⟨w.heap.size + 1 + 1 + 1, j, none⟩ = some (.int .i64 0)
 fz : ∀ j, W.frozen? ⟨w.heap.size + 1 + 1 + 1, j, none⟩ = false
 bel : Below w.heap.size w W
 lt : w.heap.size + 1 + 1 + 1 < W.heap.size
theorem PBx.below {w W W' : World} {A B : Nat} {l1 l2 l4 : Int} (h : PBx w W A B l1 l2 l4) (hb : Below W.heap.size W W') : PBx w W' A B l1 l2 l4 := by
 have hl := h.lt
 have hs := hb.size
 have q : ∀ b j x, b < W.heap.size -> W.cell? ⟨b, j, none⟩ = some x -> W'.cell? ⟨b, j, none⟩ = some x := fun b j x hlt hx => (hb.cell (p := ⟨b, j, none⟩) hlt).trans hx
 exact ⟨q _ _ _ (by omega) h.e0, q _ _ _ (by omega) h.e1, q _ _ _ (by omega) h.l0, q _ _ _ (by omega) h.l1, q _ _ _ (by omega) h.l3, fun j hj => q _ _ _ (by omega) (h.r j hj), fun j => (hb.frozen (p := ⟨w.heap.size + 1 + 1 + 1, j, none⟩) (by simp only; omega)).trans (h.fz j), ptg h.bel hb, by omega⟩
theorem got5P {W : World} {b : Nat} {y0 y4 : Value} (x0 x1 x2 x3 x4 : Value) (o : Obj) (h0 : W.cell? ⟨b, 0, none⟩ = some y0) (h4 : W.cell? ⟨b, 4, none⟩ = some y4) :
   ((((((W.setCell ⟨b, 0, none⟩ x0).setCell ⟨b, 1, none⟩ x1).setCell ⟨b, 2, none⟩ x2).setCell ⟨b, 3, none⟩ x3).setCell ⟨b, 4, none⟩ x4).alloc o).cell? ⟨b, 0, none⟩ = some x0 /\
   ((((((W.setCell ⟨b, 0, none⟩ x0).setCell ⟨b, 1, none⟩ x1).setCell ⟨b, 2, none⟩ x2).setCell ⟨b, 3, none⟩ x3).setCell ⟨b, 4, none⟩ x4).alloc o).cell? ⟨b, 1, none⟩ = some x1 /\
   ((((((W.setCell ⟨b, 0, none⟩ x0).setCell ⟨b, 1, none⟩ x1).setCell ⟨b, 2, none⟩ x2).setCell ⟨b, 3, none⟩ x3).setCell ⟨b, 4, none⟩ x4).alloc o).cell? ⟨b, 2, none⟩ = some x2 /\
   ((((((W.setCell ⟨b, 0, none⟩ x0).setCell ⟨b, 1, none⟩ x1).setCell ⟨b, 2, none⟩ x2).setCell ⟨b, 3, none⟩ x3).setCell ⟨b, 4, none⟩ x4).alloc o).cell? ⟨b, 3, none⟩ = some x3 /\
   ((((((W.setCell ⟨b, 0, none⟩ x0).setCell ⟨b, 1, none⟩ x1).setCell ⟨b, 2, none⟩ x2).setCell ⟨b, 3, none⟩ x3).setCell ⟨b, 4, none⟩ x4).alloc o).cell? ⟨b, 4, none⟩ = some x4 := by
 have hc : ∃ c t f, W.heap[b]? = some (.cells c t f) := by
   unfold World.cell? at h0
   split at h0
   · rename_i c t f hh; exact ⟨c, t, f, hh⟩
   · cases h0
 obtain ⟨c, t, f, hh⟩ := hc
 have s4 : 4 < c.size := by
   simp only [World.cell?, hh] at h4
   simp at h4
   exact (Array.getElem?_eq_some_iff.1 h4).1
 have hz : (((((W.setCell ⟨b, 0, none⟩ x0).setCell ⟨b, 1, none⟩ x1).setCell ⟨b, 2, none⟩ x2).setCell ⟨b, 3, none⟩ x3).setCell ⟨b, 4, none⟩ x4).heap[b]? = some (.cells (((((c.setIfInBounds 0 x0).setIfInBounds 1 x1).setIfInBounds 2 x2).setIfInBounds 3 x3).setIfInBounds 4 x4) t f) := by
   simp [World.setCell, Array.getElem?_modify, hh]
 have hlt := (Array.getElem?_eq_some_iff.1 hz).1
 generalize ((((W.setCell ⟨b, 0, none⟩ x0).setCell ⟨b, 1, none⟩ x1).setCell ⟨b, 2, none⟩ x2).setCell ⟨b, 3, none⟩ x3).setCell ⟨b, 4, none⟩ x4 = Z at *
 have s0 : 0 < c.size := by omega
 have s1 : 1 < c.size := by omega
 have s2 : 2 < c.size := by omega
 have s3 : 3 < c.size := by omega
 refine ⟨?_, ?_, ?_, ?_, ?_⟩
 · rw [(gal Z o).cell (by exact hlt)]; simp only [World.cell?, hz]; simp [s0]
 · rw [(gal Z o).cell (by exact hlt)]; simp only [World.cell?, hz]; simp [s1]
 · rw [(gal Z o).cell (by exact hlt)]; simp only [World.cell?, hz]; simp [s2]
 · rw [(gal Z o).cell (by exact hlt)]; simp only [World.cell?, hz]; simp [s3]
 · rw [(gal Z o).cell (by exact hlt)]; simp only [World.cell?, hz]; simp [s4]
set_option maxRecDepth 100000 in
set_option maxHeartbeats 4000000 in
theorem pathOf_any (g : Gr) (la ea lo : Option Addr) (lc ec ln lcap p : Nat) (e : Ed) (l : Lg) (w : World) (hG : GAt w la ea g) (hA : 0 <= e.1 /\ e.1 < g.lives.length) (hB : 0 <= e.2.1 /\ e.2.1 < g.lives.length) (hp3 : p = 1 \/ p = 2 \/ p = 3) :
   Calls Seq.prog 31 #[.agg #[.int .i64 g.hor, .slice la g.lives.length lc, .slice ea g.edges.length ec], .agg #[.int .i64 e.1, .int .i64 e.2.1, .slice lo ln lcap], .agg #[.int .i64 l.1, .int .i64 l.2.1, .int .i64 l.2.2.1, .int .i64 l.2.2.2], .int .i64 p] w fun r w' => r = .returned (ptV (pthOf g p e l)) /\ Below w.heap.size w w' := by
 obtain ⟨ea1, eb1, elegs⟩ := e
 obtain ⟨l1, l2, l3, l4⟩ := l
 simp only at hA hB ⊢
 obtain ⟨A, rfl⟩ : ∃ A : Nat, ea1 = (A : Int) := ⟨ea1.toNat, by omega⟩
 obtain ⟨B, rfl⟩ : ∃ B : Nat, eb1 = (B : Int) := ⟨eb1.toNat, by omega⟩
 have hAn : A < g.lives.length := by omega
 have hBn : B < g.lives.length := by omega
 obtain ⟨lb, lof, rfl, hlb, hlc⟩ : ∃ b off, la = some ⟨b, off, none⟩ /\ b < w.heap.size /\ ∀ k (hk : k < g.lives.length), (w.cell? ⟨b, off + k * 2, none⟩ = some (.int .i64 g.lives[k].1) /\ w.cell? ⟨b, off + k * 2 + 1, none⟩ = some (.int .i64 g.lives[k].2)) := by
   rcases hG.lv with h0 | ⟨b, off, rfl, hbr, hc⟩
   · rw [h0] at hAn; simp at hAn
   exact ⟨b, off, rfl, hbr, fun k hk => IvAt.get hk hc⟩
 obtain ⟨a0, a1⟩ := hlc A hAn
 obtain ⟨b0, b1⟩ := hlc B hBn
 have eA : lifeOf g (A : Int) = (g.lives[A].1, g.lives[A].2) := by unfold lifeOf; rw [Int.toNat_natCast, List.getD_eq_getElem?_getD, List.getElem?_eq_getElem hAn]; rfl
 have eB : lifeOf g (B : Int) = (g.lives[B].1, g.lives[B].2) := by unfold lifeOf; rw [Int.toNat_natCast, List.getD_eq_getElem?_getD, List.getElem?_eq_getElem hBn]; rfl
 have HP : Hid (pthOf g p ((A : Int), (B : Int), elegs) (l1, l2, l3, l4) = ((A : Int), (B : Int), max l1 (max g.lives[A].1 g.lives[B].1), min l2 (min g.lives[A].2 g.lives[B].2), priceOf p ((A : Int), (B : Int), l4))) := by show _ = _; unfold pthOf; simp only; rw [eA, eB]
 obtain ⟨mx, hmx⟩ : ∃ m, m = (if (if l1 < g.lives[A].1 then g.lives[A].1 else l1) < g.lives[B].1 then g.lives[B].1 else (if l1 < g.lives[A].1 then g.lives[A].1 else l1)) := ⟨_, rfl⟩
 obtain ⟨mn, hmn⟩ : ∃ m, m = (if g.lives[B].2 < (if g.lives[A].2 < l2 then g.lives[A].2 else l2) then g.lives[B].2 else (if g.lives[A].2 < l2 then g.lives[A].2 else l2)) := ⟨_, rfl⟩
 have hmx2 : max l1 (max g.lives[A].1 g.lives[B].1) = mx := by rw [hmx]; split <;> split <;> omega
 have hmn2 : min l2 (min g.lives[A].2 g.lives[B].2) = mn := by rw [hmn]; split <;> split <;> omega
 rw [hmx2, hmn2] at HP
 have hmxs := hmx.symm
 have hmns := hmn.symm
 clear hmx hmn hmx2 hmn2
 generalize g.lives[A].1 = x1 at *
 generalize g.lives[A].2 = x2 at *
 generalize g.lives[B].1 = z1 at *
 generalize g.lives[B].2 = z2 at *
 clear eA eB hlc hG
 obtain ⟨w1, hw1⟩ : ∃ x, x = (((w.alloc (.cells #[.int .i64 g.hor, .slice (some ⟨lb, lof, none⟩) g.lives.length lc, .slice ea g.edges.length ec] 25)).alloc (.cells #[.int .i64 (A : Int), .int .i64 (B : Int), .slice lo ln lcap] 66)).alloc (.cells #[.int .i64 l1, .int .i64 l2, .int .i64 l3, .int .i64 l4] 68)).alloc (.cells #[.int .i64 0, .int .i64 0, .int .i64 0, .int .i64 0, .int .i64 0] 78) := ⟨_, rfl⟩
 have hb1 : Below w.heap.size w w1 := by rw [hw1]; exact ptg (ptg (ptg (gal _ _) (gal _ _)) (gal _ _)) (gal _ _)
 have hw1s := hw1.symm
 have hs1 : w1.heap.size = w.heap.size + 4 := by rw [hw1]; simp
 have k1 : w1.cell? ⟨w.heap.size, 1, none⟩ = some (.slice (some ⟨lb, lof, none⟩) g.lives.length lc) := by
   rw [hw1, (gal _ _).cell (by simp <;> omega), (gal _ _).cell (by simp <;> omega), (gal _ _).cell (by simp <;> omega)]; exact cell_newP rfl rfl
 have k2 : w1.cell? ⟨w.heap.size + 1, 0, none⟩ = some (.int .i64 (A : Int)) := by
   rw [hw1, (gal _ _).cell (by simp <;> omega), (gal _ _).cell (by simp <;> omega)]; exact cell_newP (by simp) rfl
 have k3 : w1.cell? ⟨w.heap.size + 1, 1, none⟩ = some (.int .i64 (B : Int)) := by
   rw [hw1, (gal _ _).cell (by simp <;> omega), (gal _ _).cell (by simp <;> omega)]; exact cell_newP (by simp) rfl
 have a0' := (hb1.cell (p := ⟨lb, lof + A * 2, none⟩) hlb).trans a0
 have a1' := (hb1.cell (p := ⟨lb, lof + A * 2 + 1, none⟩) hlb).trans a1
 have b0' := (hb1.cell (p := ⟨lb, lof + B * 2, none⟩) hlb).trans b0
 have b1' := (hb1.cell (p := ⟨lb, lof + B * 2 + 1, none⟩) hlb).trans b1
 have hAi : (A : Int) < (g.lives.length : Int) := by omega
 have hBi : (B : Int) < (g.lives.length : Int) := by omega
 have PB0 : PBx w w1 A B l1 l2 l4 := by
   refine ⟨?_, ?_, ?_, ?_, ?_, fun j hj => ?_, fun j => ?_, hb1, by omega⟩
   · exact k2
   · exact k3
   · rw [hw1, (gal _ _).cell (by simp <;> omega)]; exact cell_newP (by simp) rfl
   · rw [hw1, (gal _ _).cell (by simp <;> omega)]; exact cell_newP (by simp) rfl
   · rw [hw1, (gal _ _).cell (by simp <;> omega)]; exact cell_newP (by simp) rfl
   · rw [hw1]
     refine cell_newP (by simp) ?_
     match j, hj with
     | 0, _ => rfl
     | 1, _ => rfl
     | 2, _ => rfl
     | 3, _ => rfl
     | 4, _ => rfl
   · rw [hw1]; exact frozen_newP (by simp)
 clear a0 a1 b0 b1 hw1
 have u0 := fun o => ((gal w1 o).cell (p := ⟨w.heap.size, 1, none⟩) (by simp only; omega)).trans k1
 have v0 := fun o o' => ((ptg (gal w1 o) (gal _ o')).cell (p := ⟨w.heap.size, 1, none⟩) (by simp only; omega)).trans k1
 have u1 := fun o => ((gal w1 o).cell (p := ⟨w.heap.size + 1, 0, none⟩) (by simp only; omega)).trans k2
 have v1 := fun o o' => ((ptg (gal w1 o) (gal _ o')).cell (p := ⟨w.heap.size + 1, 0, none⟩) (by simp only; omega)).trans k2
 have u2 := fun o => ((gal w1 o).cell (p := ⟨w.heap.size + 1, 1, none⟩) (by simp only; omega)).trans k3
 have v2 := fun o o' => ((ptg (gal w1 o) (gal _ o')).cell (p := ⟨w.heap.size + 1, 1, none⟩) (by simp only; omega)).trans k3
 have u3 := fun o => ((gal w1 o).cell (p := ⟨lb, lof + A * 2, none⟩) (by simp only; omega)).trans a0'
 have v3 := fun o o' => ((ptg (gal w1 o) (gal _ o')).cell (p := ⟨lb, lof + A * 2, none⟩) (by simp only; omega)).trans a0'
 have u4 := fun o => ((gal w1 o).cell (p := ⟨lb, lof + A * 2 + 1, none⟩) (by simp only; omega)).trans a1'
 have v4 := fun o o' => ((ptg (gal w1 o) (gal _ o')).cell (p := ⟨lb, lof + A * 2 + 1, none⟩) (by simp only; omega)).trans a1'
 have u5 := fun o => ((gal w1 o).cell (p := ⟨lb, lof + B * 2, none⟩) (by simp only; omega)).trans b0'
 have v5 := fun o o' => ((ptg (gal w1 o) (gal _ o')).cell (p := ⟨lb, lof + B * 2, none⟩) (by simp only; omega)).trans b0'
 have u6 := fun o => ((gal w1 o).cell (p := ⟨lb, lof + B * 2 + 1, none⟩) (by simp only; omega)).trans b1'
 have v6 := fun o o' => ((ptg (gal w1 o) (gal _ o')).cell (p := ⟨lb, lof + B * 2 + 1, none⟩) (by simp only; omega)).trans b1'
 go_enter Seq.func31, Tryz.ntmps31
 go_wp2_with fail
 rename_i Q' K hK
 have TL : ∀ (pa pb : Nat) (W2 : World), PBx w W2 A B l1 l2 l4 -> W2.cell? ⟨pa, 0, none⟩ = some (.int .i64 x1) -> W2.cell? ⟨pa, 1, none⟩ = some (.int .i64 x2) -> W2.cell? ⟨pb, 0, none⟩ = some (.int .i64 z1) -> W2.cell? ⟨pb, 1, none⟩ = some (.int .i64 z2) -> W2.heap.size = w.heap.size + 6 -> K { tmps := #[.agg #[.int .i64 g.hor, .slice (some ⟨lb, lof, none⟩) g.lives.length lc, .slice ea g.edges.length ec], .agg #[.int .i64 (A : Int), .int .i64 (B : Int), .slice lo ln lcap], .agg #[.int .i64 l1, .int .i64 l2, .int .i64 l3, .int .i64 l4], .int .i64 (p : Int), .pointer (some ⟨w.heap.size, 0, none⟩), .pointer (some ⟨w.heap.size + 1, 0, none⟩), .pointer (some ⟨w.heap.size + 1 + 1, 0, none⟩), undef, .pointer (some ⟨w.heap.size + 1 + 1 + 1, 0, none⟩), .pointer (some ⟨pa, 0, none⟩), .pointer (some ⟨pb, 0, none⟩), undef, .pointer (some ⟨w.heap.size, 1, none⟩), .slice (some ⟨lb, lof, none⟩) g.lives.length lc, .pointer (some ⟨w.heap.size + 1, 0, none⟩), .int .i64 (A : Int), .pointer (some ⟨lb, lof + A * 2, none⟩), .agg #[.int .i64 x1, .int .i64 x2], .pointer (some ⟨w.heap.size, 1, none⟩), .slice (some ⟨lb, lof, none⟩) g.lives.length lc, .pointer (some ⟨w.heap.size + 1, 1, none⟩), .int .i64 (B : Int), .pointer (some ⟨lb, lof + B * 2, none⟩), .agg #[.int .i64 z1, .int .i64 z2], undef, undef, undef, undef, undef, undef, undef, undef, undef, undef, undef, undef, undef, undef, undef, undef, undef, undef, undef, undef, undef, undef, undef, undef, undef, undef, undef, undef, undef], defers := [] } W2 := by
   intro pa pb W2 F q0 q1 q2 q3 hs2
   refine hK _ _ ?_
   have e0 := F.e0
   have e1 := F.e1
   have l0 := F.l0
   have l1' := F.l1
   have l3' := F.l3
   have r0 := F.r 0 (by omega)
   have r1 := F.r 1 (by omega)
   have r2 := F.r 2 (by omega)
   have r3 := F.r 3 (by omega)
   have r4 := F.r 4 (by omega)
   have fz := F.fz
   have HBW := hideg F.bel
   clear hK F PB0 u0 u1 u2 u3 u4 u5 u6 v0 v1 v2 v3 v4 v5 v6 k1 k2 k3 a0' a1' b0' b1' hw1s hs1 hb1
   rcases hp3 with rfl | rfl | rfl
   · have HV : Hid (pthOf g 1 ((A : Int), (B : Int), elegs) (l1, l2, l3, l4) = ((A : Int), (B : Int), mx, mn, 1)) := by show _ = _; rw [HP.out]; rfl
     go_wp2
     obtain ⟨t0, t1, t2, t3, t4⟩ := got5P (.int .i64 (A : Int)) (.int .i64 (B : Int)) (.int .i64 mx) (.int .i64 mn) (.int .i64 1) (.cells #[.int .i64 (A : Int), .int .i64 (B : Int), .int .i64 mx, .int .i64 mn, .int .i64 1] 78) r0 r4
     refine bodyPost_ret (v := ptV ((A : Int), (B : Int), mx, mn, 1)) (by simp [results, Tryz.results31, go_sem, ptV, t0, t1, t2, t3, t4]) rfl ⟨by rw [HV.out], ?_⟩
     exact set5P HBW.out (by omega) _ _ _ _ _ _
   · have HV : Hid (pthOf g 2 ((A : Int), (B : Int), elegs) (l1, l2, l3, l4) = ((A : Int), (B : Int), mx, mn, l4)) := by show _ = _; rw [HP.out]; rfl
     go_wp2
     obtain ⟨t0, t1, t2, t3, t4⟩ := got5P (.int .i64 (A : Int)) (.int .i64 (B : Int)) (.int .i64 mx) (.int .i64 mn) (.int .i64 l4) (.cells #[.int .i64 (A : Int), .int .i64 (B : Int), .int .i64 mx, .int .i64 mn, .int .i64 l4] 78) r0 r4
     refine bodyPost_ret (v := ptV ((A : Int), (B : Int), mx, mn, l4)) (by simp [results, Tryz.results31, go_sem, ptV, t0, t1, t2, t3, t4]) rfl ⟨by rw [HV.out], ?_⟩
     exact set5P HBW.out (by omega) _ _ _ _ _ _
   · have HV : Hid (pthOf g 3 ((A : Int), (B : Int), elegs) (l1, l2, l3, l4) = ((A : Int), (B : Int), mx, mn, 0)) := by show _ = _; rw [HP.out]; rfl
     go_wp2
     obtain ⟨t0, t1, t2, t3, t4⟩ := got5P (.int .i64 (A : Int)) (.int .i64 (B : Int)) (.int .i64 mx) (.int .i64 mn) (.int .i64 0) (.cells #[.int .i64 (A : Int), .int .i64 (B : Int), .int .i64 mx, .int .i64 mn, .int .i64 0] 78) r0 r4
     refine bodyPost_ret (v := ptV ((A : Int), (B : Int), mx, mn, 0)) (by simp [results, Tryz.results31, go_sem, ptV, t0, t1, t2, t3, t4]) rfl ⟨by rw [HV.out], ?_⟩
     exact set5P HBW.out (by omega) _ _ _ _ _ _
 go_region
 · obtain ⟨W2, hW2⟩ : ∃ x, x = ((w1.alloc (.cells #[.int .i64 x1, .int .i64 x2] 63)).alloc (.cells #[.int .i64 z1, .int .i64 z2] 63)).drew := ⟨_, rfl⟩
   have hB2 : Below w1.heap.size w1 W2 := by rw [hW2]; exact (ptg (gal w1 _) (gal _ _)).drew
   have q0 : W2.cell? ⟨w.heap.size + 4, 0, none⟩ = some (.int .i64 x1) := by rw [hW2]; exact (((gal _ _).cell (by simp <;> omega)).trans (cell_newP (by omega) rfl))
   have q1 : W2.cell? ⟨w.heap.size + 4, 1, none⟩ = some (.int .i64 x2) := by rw [hW2]; exact (((gal _ _).cell (by simp <;> omega)).trans (cell_newP (by omega) rfl))
   have q2 : W2.cell? ⟨w.heap.size + 4 + 1, 0, none⟩ = some (.int .i64 z1) := by rw [hW2]; exact (cell_newP (by simp; omega) rfl)
   have q3 : W2.cell? ⟨w.heap.size + 4 + 1, 1, none⟩ = some (.int .i64 z2) := by rw [hW2]; exact (cell_newP (by simp; omega) rfl)
   have hs2 : W2.heap.size = w.heap.size + 6 := by rw [hW2]; simp [World.drew, hs1]
   rw [<- hW2]
   exact TL _ _ W2 (PB0.below hB2) q0 q1 q2 q3 hs2
 · obtain ⟨W2, hW2⟩ : ∃ x, x = ((w1.alloc (.cells #[.int .i64 z1, .int .i64 z2] 63)).alloc (.cells #[.int .i64 x1, .int .i64 x2] 63)).drew := ⟨_, rfl⟩
   have hB2 : Below w1.heap.size w1 W2 := by rw [hW2]; exact (ptg (gal w1 _) (gal _ _)).drew
   have q0 : W2.cell? ⟨w.heap.size + 4 + 1, 0, none⟩ = some (.int .i64 x1) := by rw [hW2]; exact (cell_newP (by simp; omega) rfl)
   have q1 : W2.cell? ⟨w.heap.size + 4 + 1, 1, none⟩ = some (.int .i64 x2) := by rw [hW2]; exact (cell_newP (by simp; omega) rfl)
   have q2 : W2.cell? ⟨w.heap.size + 4, 0, none⟩ = some (.int .i64 z1) := by rw [hW2]; exact (((gal _ _).cell (by simp <;> omega)).trans (cell_newP (by omega) rfl))
   have q3 : W2.cell? ⟨w.heap.size + 4, 1, none⟩ = some (.int .i64 z2) := by rw [hW2]; exact (((gal _ _).cell (by simp <;> omega)).trans (cell_newP (by omega) rfl))
   have hs2 : W2.heap.size = w.heap.size + 6 := by rw [hW2]; simp [World.drew, hs1]
   rw [<- hW2]
   exact TL _ _ W2 (PB0.below hB2) q0 q1 q2 q3 hs2
theorem Tryz.infoPath : (Seq.prog.info? 78).map (fun i => (i.zero, i.size, i.bytes)) = some (some (.agg #[.int .i64 0, .int .i64 0, .int .i64 0, .int .i64 0, .int .i64 0]), 5, 40) := by kernel_rfl
def pthE (g : Gr) (p : Nat) (e : Ed) (j : Nat) : List Pt := (e.2.2.take j).flatMap fun l => pthsL g p e l
def pthG (g : Gr) (p : Nat) (k : Nat) : List Pt := (g.edges.take k).flatMap fun e => e.2.2.flatMap fun l => pthsL g p e l
theorem pthE_succ (g : Gr) (p : Nat) (e : Ed) {j : Nat} (hj : j < e.2.2.length) : pthE g p e (j + 1) = pthE g p e j ++ pthsL g p e e.2.2[j] := by
 unfold pthE; rw [List.take_succ_eq_append_getElem hj, List.flatMap_append, List.flatMap_singleton]
theorem pthE_all (g : Gr) (p : Nat) (e : Ed) : pthE g p e e.2.2.length = e.2.2.flatMap fun l => pthsL g p e l := by unfold pthE; rw [List.take_length]
theorem pthG_succ (g : Gr) (p : Nat) {k : Nat} (hk : k < g.edges.length) : pthG g p (k + 1) = pthG g p k ++ pthE g p g.edges[k] g.edges[k].2.2.length := by
 rw [pthE_all]; unfold pthG; rw [List.take_succ_eq_append_getElem hk, List.flatMap_append, List.flatMap_singleton]
theorem pthG_all (g : Gr) (p : Nat) : pthG g p g.edges.length = pathsF g p := by unfold pthG pathsF; rw [List.take_length]
theorem pthG_len {g : Gr} (h0 : gChk g = 0) (p k : Nat) : (pthG g p k).length <= 360 := by
 have R := gChk_right h0
 have h1 := flat_len (fun e : Ed => e.2.2.flatMap fun l => pthsL g p e l) 12 (g.edges.take k) (fun e he => by
   have h2 := flat_len (fun l => pthsL g p e l) 2 e.2.2 (fun l _ => pthsL_len g p e l)
   have h3 := (R.ends e (List.mem_of_mem_take he)).2.2
   omega)
 have h4 := R.eds
 have h5 : (g.edges.take k).length <= g.edges.length := by rw [List.length_take]; omega
 unfold pthG
 omega
theorem pthE_len {g : Gr} (p : Nat) {e : Ed} (he : e.2.2.length <= 6) (j : Nat) : (pthE g p e j).length <= 12 := by
 have h2 := flat_len (fun l => pthsL g p e l) 2 (e.2.2.take j) (fun l _ => pthsL_len g p e l)
 have h5 : (e.2.2.take j).length <= e.2.2.length := by rw [List.length_take]; omega
 unfold pthE
 omega
set_option maxRecDepth 100000 in
set_option maxHeartbeats 4000000 in
theorem bsPaths_any (g : Gr) (la ea : Option Addr) (lc ec p : Nat) (h0 : gChk g = 0) (hp3 : p = 1 \/ p = 2 \/ p = 3) : PathsOk g la ea lc ec p := by
 intro w hG
 obtain ⟨i0, hi, hz0, hz1, hz2⟩ := info_parts Tryz.infoPath
 obtain ⟨w1, hw1⟩ : ∃ x, x = w.alloc (.cells #[.int .i64 g.hor, .slice la g.lives.length lc, .slice ea g.edges.length ec] 25) := ⟨_, rfl⟩
 have B0 : GBox w w1 w.heap.size g la ea lc ec := by rw [hw1]; exact gbox_start w g la ea lc ec 25
 have R := gChk_right h0
 have hed := R.eds
 have HRt := hideg R
 have HG := hideg hG
 have H0 := hideg h0
 have HB1 := hideg B0
 have g0 := B0.c0
 have g2 := B0.c2
 have hw1s := hw1.symm
 clear hG B0 hw1 R h0
 go_enter Seq.func18, Tryz.ntmps18
 go_wp2_with fail
 clear hw1s
 go_loopw [5, 14] (fun u d wr => ∃ k : Nat, k <= g.edges.length /\ d = .int .i64 (k : Int) /\ wr.ownsRow w1.heap.size 78 5 u (pthG g p k).length (encPs (pthG g p k)) /\ Below w1.heap.size w1 wr) (fun _ d _ => g.edges.length - (intOf d).toNat)
 case atStart => exact ⟨0, by omega, by simp, World.ownsRow_nil _ _ _ _, Below.refl _ _⟩
 case round =>
   clear g0 g2
   obtain ⟨k, hk, rfl, hown, hb⟩ := hrel
   have BR := HB1.out.below hb
   have hol := pthG_len H0.out p k
   by_cases hkl : k < g.edges.length
   · obtain ⟨b, off, lo, lcap, rfl, hbr, c0, c1, c2, hL⟩ : ∃ b off lo lcap, ea = some ⟨b, off, none⟩ /\ b < w.heap.size /\ w.cell? ⟨b, off + k * 3, none⟩ = some (.int .i64 g.edges[k].1) /\ w.cell? ⟨b, off + k * 3 + 1, none⟩ = some (.int .i64 g.edges[k].2.1) /\ w.cell? ⟨b, off + k * 3 + 2, none⟩ = some (.slice lo g.edges[k].2.2.length lcap) /\ LgAt w lo g.edges[k].2.2 := by
       rcases HG.out.ed with h0 | ⟨b, off, rfl, hbr, hc⟩
       · rw [h0] at hkl; simp at hkl
       obtain ⟨c0, c1, lo, lcap, c2, hL, _, _⟩ := hc k hkl
       exact ⟨b, off, lo, lcap, rfl, hbr, c0, c1, c2, hL⟩
     have e0 := (BR.bel.cell (p := ⟨b, off + k * 3, none⟩) hbr).trans c0
     have e1 := (BR.bel.cell (p := ⟨b, off + k * 3 + 1, none⟩) hbr).trans c1
     have e2 := (BR.bel.cell (p := ⟨b, off + k * 3 + 2, none⟩) hbr).trans c2
     have HL := hideg hL
     obtain ⟨hA, hBe, hlen⟩ := HRt.out.ends _ (List.getElem_mem hkl)
     have HS := hideg (pthG_succ g p hkl)
     generalize g.edges[k] = ed at *
     obtain ⟨wb, hwb⟩ : ∃ x, x = wr.alloc (.cells #[.int .i64 ed.1, .int .i64 ed.2.1, .slice lo ed.2.2.length lcap] 66) := ⟨_, rfl⟩
     have hbw : Below wr.heap.size wr wb := by rw [hwb]; exact gal _ _
     obtain ⟨Eb, hEb⟩ : ∃ x, x = wr.heap.size := ⟨_, rfl⟩
     have hE0 : wb.heap[Eb]? = some (.cells #[.int .i64 ed.1, .int .i64 ed.2.1, .slice lo ed.2.2.length lcap] 66) := by rw [hwb, hEb]; show (wr.heap.push _)[_]? = _; simp
     have f2 : wb.cell? ⟨Eb, 2, none⟩ = some (.slice lo ed.2.2.length lcap) := by simp [World.cell?, hE0]
     have hown0 := ownsRow_below hown hbw
     have hne0 : u5.ownBlock ≠ some Eb := fun e => by have := (hown.lt _ e).2; omega
     have hb0 : Below w1.heap.size w1 wb := hb.trans (hbw.mono hb.size)
     have hwbs := hwb.symm
     have hEbs := hEb.symm
     obtain ⟨out, hout⟩ : ∃ o, o = pthG g p k := ⟨_, rfl⟩
     rw [<- hout] at hown0 hol HS
     have g2 := BR.c2
     clear hown hwb hEb c0 c1 c2 hL BR hb hbw
     go_wp2_with fail
     clear hwbs e0 e1 e2 g2
     go_loopw [5, 21] (fun u i ws => ∃ j : Nat, j <= ed.2.2.length /\ i = .int .i64 (j : Int) /\ ws.ownsRow w1.heap.size 78 5 u (out ++ pthE g p ed j).length (encPs (out ++ pthE g p ed j)) /\ Below w1.heap.size w1 ws /\ ws.heap[Eb]? = some (.cells #[.int .i64 ed.1, .int .i64 ed.2.1, .slice lo ed.2.2.length lcap] 66) /\ u.ownBlock ≠ some Eb) (fun _ i _ => ed.2.2.length - (intOf i).toNat)
     case atStart => exact ⟨0, Nat.zero_le _, rfl, by simpa [pthE] using hown0, hb0, hE0, hne0⟩
     case round =>
       clear hown0 hb0 hE0 hne0 f2
       obtain ⟨j, hj, rfl, hown, hb, hEd, hne⟩ := hrel
       have BR := HB1.out.below hb
       have hoe := pthE_len (g := g) p hlen j
       by_cases hjl : j < ed.2.2.length
       · obtain ⟨b2, off2, rfl, hb2, l0, l1, l2, l3⟩ : ∃ b2 off2, lo = some ⟨b2, off2, none⟩ /\ b2 < w.heap.size /\ w.cell? ⟨b2, off2 + j * 4, none⟩ = some (.int .i64 ed.2.2[j].1) /\ w.cell? ⟨b2, off2 + j * 4 + 1, none⟩ = some (.int .i64 ed.2.2[j].2.1) /\ w.cell? ⟨b2, off2 + j * 4 + 2, none⟩ = some (.int .i64 ed.2.2[j].2.2.1) /\ w.cell? ⟨b2, off2 + j * 4 + 3, none⟩ = some (.int .i64 ed.2.2[j].2.2.2) := by
           rcases HL.out with h0 | ⟨b2, off2, rfl, hlt, hc⟩
           · rw [h0] at hjl; simp at hjl
           · have h1 := hc j hjl
             have e : ed.2.2.getD j (0, 0, 0, 0) = ed.2.2[j] := by rw [List.getD_eq_getElem?_getD, List.getElem?_eq_getElem hjl]; rfl
             rw [e] at h1
             exact ⟨b2, off2, rfl, hlt, h1⟩
         have m0 := (BR.bel.cell (p := ⟨b2, off2 + j * 4, none⟩) hb2).trans l0
         have m1 := (BR.bel.cell (p := ⟨b2, off2 + j * 4 + 1, none⟩) hb2).trans l1
         have m2 := (BR.bel.cell (p := ⟨b2, off2 + j * 4 + 2, none⟩) hb2).trans l2
         have m3 := (BR.bel.cell (p := ⟨b2, off2 + j * 4 + 3, none⟩) hb2).trans l3
         have HES := hideg (pthE_succ g p ed hjl)
         generalize ed.2.2[j] = l at *
         obtain ⟨wl, hwl⟩ : ∃ x, x = wr.alloc (.cells #[.int .i64 l.1, .int .i64 l.2.1, .int .i64 l.2.2.1, .int .i64 l.2.2.2] 68) := ⟨_, rfl⟩
         have hbl : Below wr.heap.size wr wl := by rw [hwl]; exact gal _ _
         have BL := BR.below hbl
         have hEl : Eb < wr.heap.size := (Array.getElem?_eq_some_iff.1 hEd).1
         have hEd1 := (hbl.block Eb hEl).trans hEd
         have ga0 := BL.c0
         have ga1 := BL.c1
         have ga2 := BL.c2
         have ge0 : wl.cell? ⟨Eb, 0, none⟩ = some (.int .i64 ed.1) := by simp [World.cell?, hEd1]
         have ge1 : wl.cell? ⟨Eb, 1, none⟩ = some (.int .i64 ed.2.1) := by simp [World.cell?, hEd1]
         have ge2 : wl.cell? ⟨Eb, 2, none⟩ = some (.slice (some ⟨b2, off2, none⟩) ed.2.2.length lcap) := by simp [World.cell?, hEd1]
         have gl0 : wl.cell? ⟨wr.heap.size, 0, none⟩ = some (.int .i64 l.1) := by rw [hwl]; exact cell_newP rfl rfl
         have gl1 : wl.cell? ⟨wr.heap.size, 1, none⟩ = some (.int .i64 l.2.1) := by rw [hwl]; exact cell_newP rfl rfl
         have gl2 : wl.cell? ⟨wr.heap.size, 2, none⟩ = some (.int .i64 l.2.2.1) := by rw [hwl]; exact cell_newP rfl rfl
         have gl3 : wl.cell? ⟨wr.heap.size, 3, none⟩ = some (.int .i64 l.2.2.2) := by rw [hwl]; exact cell_newP rfl rfl
         have hcl := pathOf_any g la (some ⟨b, off, none⟩) (some ⟨b2, off2, none⟩) lc ec ed.2.2.length lcap p ed l wl (HG.out.below BL.bel) hA hBe hp3
         have hwls := hwl.symm
         have HEd := hideg hEd
         have HEl := hideg hEl
         have HNe := hideg hne
         have HBl := hideg hbl
         have HBb := hideg hb
         have HBR := hideg BR
         clear hEd hEl hne hEd1 hbl hb BL BR hwl
         go_wp2_with fail
         refine hcl.mono ?_
         rintro e w3 ⟨rfl, hb3⟩
         have hEd := HEd.out
         have hEl := HEl.out
         have hne := HNe.out
         have hbl := HBl.out
         have hb := HBb.out
         have HPT : Hid (pthsL g p ed l = if (pthOf g p ed l).2.2.2.1 <= (pthOf g p ed l).2.2.1 then [] else if p = 3 then [pthOf g p ed l, ((pthOf g p ed l).2.1, (pthOf g p ed l).1, (pthOf g p ed l).2.2)] else [pthOf g p ed l]) := rfl
         generalize pthOf g p ed l = π at *
         generalize pthsL g p ed l = nx at *
         obtain ⟨w4, hw4⟩ : ∃ x, x = w3.alloc (.cells #[.int .i64 π.1, .int .i64 π.2.1, .int .i64 π.2.2.1, .int .i64 π.2.2.2.1, .int .i64 π.2.2.2.2] 78) := ⟨_, rfl⟩
         have hb4 : Below wr.heap.size wr w4 := by rw [hw4]; exact ptg (ptg hbl hb3) (gal w3 _)
         have hP4 : w4.heap[w3.heap.size]? = some (.cells #[.int .i64 π.1, .int .i64 π.2.1, .int .i64 π.2.2.1, .int .i64 π.2.2.2.1, .int .i64 π.2.2.2.2] 78) := by rw [hw4]; show (w3.heap.push _)[_]? = _; simp
         have x0 : w4.cell? ⟨w3.heap.size, 0, none⟩ = some (.int .i64 π.1) := by simp [World.cell?, hP4]
         have x1 : w4.cell? ⟨w3.heap.size, 1, none⟩ = some (.int .i64 π.2.1) := by simp [World.cell?, hP4]
         have x2 : w4.cell? ⟨w3.heap.size, 2, none⟩ = some (.int .i64 π.2.2.1) := by simp [World.cell?, hP4]
         have x3 : w4.cell? ⟨w3.heap.size, 3, none⟩ = some (.int .i64 π.2.2.2.1) := by simp [World.cell?, hP4]
         have x4 : w4.cell? ⟨w3.heap.size, 4, none⟩ = some (.int .i64 π.2.2.2.2) := by simp [World.cell?, hP4]
         have hs3 : wr.heap.size <= w3.heap.size := (ptg hbl hb3).size
         have hs4 : w4.heap.size = w3.heap.size + 1 := by rw [hw4]; simp
         have o1 := ownsRow_below hown hb4
         have o2 : Below w1.heap.size w1 w4 := hb.trans (hb4.mono hb.size)
         have hE4 := (hb4.block Eb hEl).trans hEd
         have hul := fun z (e : u5.ownBlock = some z) => (hown.lt z e).2
         have hw4s := hw4.symm
         clear hcl hwls ga0 ga1 ga2 ge0 ge1 ge2 gl0 gl1 gl2 gl3 m0 m1 m2 m3 l0 l1 l2 l3 hw4 hown hb hEd hbl hb3 hb4
         by_cases hle : π.2.2.2.1 <= π.2.2.1
         · have hnx : nx = [] := by rw [HPT.out, if_pos hle]
           have hd : decide (π.2.2.2.1 <= π.2.2.1) = true := by simpa using hle
           have HO := hideg o1
           have HO2 := hideg o2
           have HE4 := hideg hE4
           have HHS := hideg HES.out
           clear o1 o2 hE4
           unfold ptV
           go_wp2_with fail
           exact ⟨⟨j + 1, by omega, by go_num, by rw [HES.out, hnx, List.append_nil]; exact HO.out, HO2.out, HE4.out, HNe.out⟩, by simp [intOf]; omega⟩
         · have hd : decide (π.2.2.2.1 <= π.2.2.1) = false := by simpa using hle
           have hs5 := o2.size
           have hll : (out ++ pthE g p ed j).length <= 400 := by rw [List.length_append]; omega
           have HBg : Hid (∀ (o : Obj) (w5 : World), (w4.alloc o).grownBy w5 u5.ownBlock -> Below w1.heap.size w1 w5) := fun o w5 hgr => (o2.alloc o2.size o).grown hgr (by have := o2.size; simp at this ⊢; omega) (fun k hk => (o1.lt k hk).1)
           have HGe : Hid (∀ (o : Obj) (w5 : World), (w4.alloc o).grownBy w5 u5.ownBlock -> ∀ q, q < w4.heap.size -> u5.ownBlock ≠ some q -> w5.heap[q]? = w4.heap[q]?) := fun o w5 hgr q hq hn => (hgr.block q (by simp; omega) (Ne.symm hn)).trans ((gal w4 o).block q hq)
           have HEn : Hid (Eb < w4.heap.size) := by show _ < _; omega
           have HPb : Hid (u5.ownBlock ≠ some w3.heap.size) := fun e => by have := hul _ e; omega
           have HO := hideg o1
           have HE4 := hideg hE4
           have HP4 := hideg hP4
           clear o1 o2 hE4 hP4 hul hEl hne
           by_cases p3 : p = 3
           · have p3i : ((p : Int) == 3) = true := by simp; omega
             have hnx : nx = [π, (π.2.1, π.1, π.2.2)] := by rw [HPT.out, if_neg hle, if_pos p3]
             clear p3
             have hs43 : w3.heap.size < w4.heap.size := by omega
             have hs1r := HBb.out.size
             unfold ptV
             go_wp2_with (at_builtin; refine stopHereB ?_)
             refine hideg ?_
             refine wpList_append_own_at _ rfl _ _ 53 rfl w1.heap.size 78 i0 _ 5 40 ((Seq.pu 53).trans Tryz.underlying53) hi hz0 hz1 hz2 rfl (by decide) _ _ _ rfl (World.ownsRow.alloc (w := w4) HO.out _) ⟨w3.heap.size + 1, 0, none⟩ 1 1 [.int .i64 π.1, .int .i64 π.2.1, .int .i64 π.2.2.1, .int .i64 π.2.2.2.1, .int .i64 π.2.2.2.2] rfl rfl (cells_five_new _ _ _ _ _ _ _ _ hs4.symm) (by intro u hu; simp at hu; rcases hu with rfl | rfl | rfl | rfl | rfl <;> rfl) (by unfold maxLen; omega) (by omega) (by simp; omega) ?_
             intro v' w5 hown5 hgrow _ hat
             have hb5 := HBg.out _ _ hgrow
             have hE5 := (HGe.out _ _ hgrow Eb HEn.out HNe.out).trans HE4.out
             have hP5 := (HGe.out _ _ hgrow w3.heap.size hs43 HPb.out).trans HP4.out
             have hn5 : v'.ownBlock ≠ some Eb := fun e => by
               rcases hat with h | h
               · exact HNe.out (h.symm.trans e)
               · rw [h] at e; simp at e; have := HEn.out; omega
             have hq5 : v'.ownBlock ≠ some w3.heap.size := fun e => by
               rcases hat with h | h
               · exact HPb.out (h.symm.trans e)
               · rw [h] at e; simp at e; omega
             have hEP : w3.heap.size ≠ Eb := fun e => by rw [e] at hP5; rw [hP5] at hE5; simp at hE5
             have hs35 : w3.heap.size < w5.heap.size := (Array.getElem?_eq_some_iff.1 hP5).1
             have y0 : w5.cell? ⟨w3.heap.size, 0, none⟩ = some (.int .i64 π.1) := by simp [World.cell?, hP5]
             have y1 : w5.cell? ⟨w3.heap.size, 1, none⟩ = some (.int .i64 π.2.1) := by simp [World.cell?, hP5]
             have yf : ∀ q, w5.frozen? ⟨w3.heap.size, q, none⟩ = false := fun q => by simp [World.frozen?, hP5]
             obtain ⟨w6, hw6⟩ : ∃ x, x = (w5.setCell ⟨w3.heap.size, 0, none⟩ (.int .i64 π.2.1)).setCell ⟨w3.heap.size, 1, none⟩ (.int .i64 π.1) := ⟨_, rfl⟩
             have hP6 : w6.heap[w3.heap.size]? = some (.cells #[.int .i64 π.2.1, .int .i64 π.1, .int .i64 π.2.2.1, .int .i64 π.2.2.2.1, .int .i64 π.2.2.2.2] 78) := by rw [hw6]; exact Sim.setCell_this (Sim.setCell_this hP5)
             have hs6 : w6.heap.size = w5.heap.size := by rw [hw6]; simp [World.setCell]
             have R6 := ownsRow_setBox (j := 1) (u := .int .i64 π.1) (ownsRow_setBox (j := 0) (u := .int .i64 π.2.1) hown5 hq5) hq5
             rw [<- hw6] at R6
             have hb6 : Below w1.heap.size w1 w6 := by rw [hw6]; exact (hb5.setCell (p := ⟨w3.heap.size, 0, none⟩) (by simp only; omega) _).setCell (p := ⟨w3.heap.size, 1, none⟩) (by simp only; omega) _
             have hE6 : w6.heap[Eb]? = some (.cells #[.int .i64 ed.1, .int .i64 ed.2.1, .slice (some ⟨b2, off2, none⟩) ed.2.2.length lcap] 66) := by rw [hw6, Sim.setCell_other (by exact hEP), Sim.setCell_other (by exact hEP)]; exact hE5
             have z0 : w6.cell? ⟨w3.heap.size, 0, none⟩ = some (.int .i64 π.2.1) := by simp [World.cell?, hP6]
             have z1 : w6.cell? ⟨w3.heap.size, 1, none⟩ = some (.int .i64 π.1) := by simp [World.cell?, hP6]
             have z2 : w6.cell? ⟨w3.heap.size, 2, none⟩ = some (.int .i64 π.2.2.1) := by simp [World.cell?, hP6]
             have z3 : w6.cell? ⟨w3.heap.size, 3, none⟩ = some (.int .i64 π.2.2.2.1) := by simp [World.cell?, hP6]
             have z4 : w6.cell? ⟨w3.heap.size, 4, none⟩ = some (.int .i64 π.2.2.2.2) := by simp [World.cell?, hP6]
             have hs7 := hb6.size
             have hw6s := hw6.symm
             have HR6 := hideg R6
             have HB6 := hideg hb6
             have HE6 := hideg hE6
             have HN5 := hideg hn5
             have HE6l : Hid (Eb < w6.heap.size) := (Array.getElem?_eq_some_iff.1 hE6).1
             clear hgrow hat hown5 hb5 hE5 hP5 hn5 hq5 hEP x0 x1 x2 x3 x4 hw4s hw6 hP6 R6 hb6 hE6
             go_wp2_with (at_builtin; refine stopHereB ?_)
             refine hideg ?_
             refine wpList_append_own_at _ rfl _ _ 53 rfl w1.heap.size 78 i0 _ 5 40 ((Seq.pu 53).trans Tryz.underlying53) hi hz0 hz1 hz2 rfl (by decide) _ _ _ rfl (World.ownsRow.alloc (w := w6) HR6.out _) ⟨w5.heap.size, 0, none⟩ 1 1 [.int .i64 π.2.1, .int .i64 π.1, .int .i64 π.2.2.1, .int .i64 π.2.2.2.1, .int .i64 π.2.2.2.2] rfl rfl (cells_five_new _ _ _ _ _ _ _ _ hs6.symm) (by intro u hu; simp at hu; rcases hu with rfl | rfl | rfl | rfl | rfl <;> rfl) (by unfold maxLen; omega) (by omega) (by simp; omega) ?_
             intro v7 w7 hown7 hgrow7 _ hat7
             have hb7 : Below w1.heap.size w1 w7 := (HB6.out.alloc HB6.out.size _).grown hgrow7 (by have := HB6.out.size; simp at this ⊢; omega) (fun k hk => (HR6.out.lt k hk).1)
             have hE7 := ((hgrow7.block Eb (by simp; have := HE6l.out; omega) (Ne.symm HN5.out)).trans ((gal w6 _).block Eb HE6l.out)).trans HE6.out
             have hn7 : v7.ownBlock ≠ some Eb := fun e => by
               rcases hat7 with h | h
               · exact HN5.out (h.symm.trans e)
               · rw [h] at e; simp at e; have := HE6l.out; omega
             have R7 : w7.ownsRow w1.heap.size 78 5 v7 (out ++ pthE g p ed (j + 1)).length (encPs (out ++ pthE g p ed (j + 1))) := by
               rw [HES.out, hnx, <- List.append_assoc, show ([π, (π.2.1, π.1, π.2.2)] : List Pt) = [π] ++ [(π.2.1, π.1, π.2.2)] from rfl, <- List.append_assoc, encPs_append, encPs_append, List.length_append, List.length_append]; exact hown7
             have HF := hideg (And.intro R7 (And.intro hb7 (And.intro hE7 hn7)))
             clear hgrow7 hat7 hown7 R7 hb7 hE7 hn7 z0 z1 z2 z3 z4 hw6s hs4 hs6 hs7
             go_wp2_with fail
             exact ⟨⟨j + 1, by omega, by go_num, HF.out.1, HF.out.2.1, HF.out.2.2.1, HF.out.2.2.2⟩, by simp [intOf]; omega⟩
           · have p3i : ((p : Int) == 3) = false := by simp; omega
             have hnx : nx = [π] := by rw [HPT.out, if_neg hle, if_neg p3]
             unfold ptV
             go_wp2_with (at_builtin; refine stopHereB ?_)
             refine hideg ?_
             refine wpList_append_own_at _ rfl _ _ 53 rfl w1.heap.size 78 i0 _ 5 40 ((Seq.pu 53).trans Tryz.underlying53) hi hz0 hz1 hz2 rfl (by decide) _ _ _ rfl (World.ownsRow.alloc (w := w4) HO.out _) ⟨w3.heap.size + 1, 0, none⟩ 1 1 [.int .i64 π.1, .int .i64 π.2.1, .int .i64 π.2.2.1, .int .i64 π.2.2.2.1, .int .i64 π.2.2.2.2] rfl rfl (cells_five_new _ _ _ _ _ _ _ _ hs4.symm) (by intro u hu; simp at hu; rcases hu with rfl | rfl | rfl | rfl | rfl <;> rfl) (by unfold maxLen; omega) (by omega) (by simp; omega) ?_
             intro v' w5 hown5 hgrow _ hat
             have hb5 := HBg.out _ _ hgrow
             have R5 : w5.ownsRow w1.heap.size 78 5 v' (out ++ pthE g p ed (j + 1)).length (encPs (out ++ pthE g p ed (j + 1))) := by rw [HES.out, hnx, <- List.append_assoc, encPs_append, List.length_append]; exact hown5
             have hE5 := (HGe.out _ _ hgrow Eb HEn.out HNe.out).trans HE4.out
             have hn5 : v'.ownBlock ≠ some Eb := fun e => by
               rcases hat with h | h
               · exact HNe.out (h.symm.trans e)
               · rw [h] at e; simp at e; have := HEn.out; omega
             have HF := hideg (And.intro R5 (And.intro hb5 (And.intro hE5 hn5)))
             clear hgrow hat hown5 R5 hb5 hE5 hn5 x0 x1 x2 x3 x4 hw4s
             go_wp2_with fail
             exact ⟨⟨j + 1, by omega, by go_num, HF.out.1, HF.out.2.1, HF.out.2.2.1, HF.out.2.2.2⟩, by simp [intOf]; omega⟩
       · have hjn : j = ed.2.2.length := by omega
         subst hjn
         rw [<- HS.out] at hown
         clear BR
         go_wp2
         go_roundw
         case rel => exact ⟨k + 1, by omega, by go_num, hown, hb⟩
         case measure => simp [intOf]; omega
   · have hke : k = g.edges.length := by omega
     subst hke
     rw [pthG_all] at hown
     have R := owns_base2 hown HB1.out.bel.size
     have hbF := BR.bel
     clear hown BR
     go_wp2
     go_ret
     exact ⟨_, rfl, R, hbF⟩
theorem bsAsk_zero {g : Gr} {p v : Int} (h : askE g p v = 0) : gChk g = 0 /\ ∃ q : Nat, p = q /\ (q = 1 \/ q = 2 \/ q = 3) := by
 unfold askE at h
 by_cases e : gChk g = 0
 · rw [if_pos e] at h
   by_cases i : inR p 1 3 = true
   · rw [inR_iff] at i
     exact ⟨e, p.toNat, by omega, by omega⟩
   · rw [if_neg i] at h; omega
 · rw [if_neg e] at h; exact absurd h e
set_option maxRecDepth 100000 in
theorem same1_any (ao bo : Option Addr) (ca cb : Nat) (a b : List P3) (W : World) (hA : PcAt W ao a) (hB : PcAt W bo b) (hl : a.length <= 9223372036854775807) :
   Calls Seq.prog 8 #[.slice ao a.length ca, .slice bo b.length cb] W fun e w' => e = .returned (.bool (decide (a = b))) /\ Below W.heap.size W w' := by
 have h1 := Equal3_any ao bo ca cb a b W hA hB hl
 generalize decide (a = b) = x at *
 clear hA hB hl
 go_enter Seq.func8, Tryz.ntmps8
 go_wp2_with fail
 refine h1.mono ?_
 rintro e w2 ⟨rfl, hb2⟩
 have HB := hideg hb2
 clear h1 hb2
 go_wp2
 go_ret
 exact ⟨rfl, HB.out⟩
set_option maxRecDepth 100000 in
theorem same_rows {b1 b2 go go2 n bx : Nat} {val val2 : Nat -> Value} {T T2 : Nat -> List P3} (w : World) (A : AM w b1 go n val T) (A2 : AM w b2 go2 n val2 T2) (hT : ∀ v, v < n -> T v = T2 v) (hc : w.cell? ⟨bx, 0, none⟩ = some (.slice (some ⟨go2, 0, none⟩) n n)) :
   Calls Seq.prog 6 #[.slice (some ⟨go, 0, none⟩) n n, .pointer (some ⟨bx, 0, none⟩)] w fun e w' => e = .returned (.bool true) /\ Below w.heap.size w w' := by
 have h1 := eqRows_any 8 (fun args w => by simp) (fun ao bo ca cb a b W hA hB hl => same1_any ao bo ca cb a b W hA hB hl) w A A2 hT
 clear A A2 hT
 go_enter Seq.func6, Tryz.ntmps6
 go_wp2_with fail
 refine h1.mono ?_
 rintro e w2 ⟨rfl, hb2⟩
 have HB := hideg hb2
 clear h1 hb2 hc
 go_wp2
 go_ret
 exact ⟨rfl, HB.out⟩
set_option maxRecDepth 100000 in
theorem same_none {bx : Nat} (w : World) (hc : w.cell? ⟨bx, 0, none⟩ = some (.slice none 0 0)) :
   Calls Seq.prog 6 #[.slice none 0 0, .pointer (some ⟨bx, 0, none⟩)] w fun e w' => e = .returned (.bool true) /\ w' = w := by
 have h1 := eqRows_nil 8 w
 go_enter Seq.func6, Tryz.ntmps6
 go_wp2_with fail
 refine h1.mono ?_
 rintro e w2 ⟨rfl, rfl⟩
 clear h1 hc
 go_wp2
 go_ret
 exact ⟨rfl, rfl⟩
set_option maxRecDepth 100000 in
set_option maxHeartbeats 2000000 in
theorem bspSays_err (g : Gr) (la ea : Option Addr) (lc ec : Nat) (p fr W : Int) (w : World) (hG : GAt w la ea g) (hE : askE g p fr ≠ 0) :
   Calls Seq.prog 3 #[.agg #[.int .i64 g.hor, .slice la g.lives.length lc, .slice ea g.edges.length ec], .int .i64 p, .int .i64 fr, .int .i64 W] w fun e _ => e = .returned (.bool true) := by
 have B0 := gbox_start w g la ea lc ec 25
 have h1 := Asked_any g la ea lc ec p fr _ (hG.below B0.bel)
 have HR := hideg (fun X (hb : Below w.heap.size w X) => bsRun_err g la ea lc ec p fr X (hG.below hb) hE)
 have HC := hideg (fun X (hb : Below w.heap.size w X) => bsCombined_err g la ea lc ec p fr W X (hG.below hb) hE)
 generalize askE g p fr = x at *
 have e1 : (x == 0) = false := by simpa using hE
 have e2 : (x != x) = false := by simp
 have e3 : (x == x) = true := by simp
 clear hG
 go_enter Seq.func3, Tryz.ntmps3
 go_wp2_with fail
 refine h1.mono ?_
 rintro e w2 ⟨rfl, hb2⟩
 have B2 := B0.below hb2
 clear h1 hb2 B0
 obtain ⟨w3, hw3⟩ : ∃ y, y = w2.alloc (.cells #[.slice none 0 0] 28) := ⟨_, rfl⟩
 have B3 : GBox w w3 w.heap.size g la ea lc ec := by rw [hw3]; exact B2.below (gal _ _)
 have c3 : w3.cell? ⟨w2.heap.size, 0, none⟩ = some (.slice none 0 0) := by rw [hw3]; simp
 have l3 : w2.heap.size < w3.heap.size := by rw [hw3]; simp
 have h4 := HR.out w3 B3.bel
 have g0 := B3.c0
 have g1 := B3.c1
 have g2 := B3.c2
 have HL := hideg l3
 have hw3s := hw3.symm
 clear hw3 l3 B2
 go_wp2_with fail
 refine h4.mono ?_
 rintro e w4 ⟨rfl, hb4⟩
 have B4 := B3.below hb4
 have c4 : w4.cell? ⟨w2.heap.size, 0, none⟩ = some (.slice none 0 0) := (hb4.cell (p := ⟨w2.heap.size, 0, none⟩) HL.out).trans c3
 have h5 := same_none w4 c4
 clear h4 B3 g0 g1 g2 c3 hw3s HR
 go_wp2_with fail
 refine h5.mono ?_
 rintro e w5 ⟨rfl, rfl⟩
 have h6 := HC.out w5 B4.bel
 have g0 := B4.c0
 have g1 := B4.c1
 have g2 := B4.c2
 have HL5 := hideg (Nat.lt_of_lt_of_le HL.out hb4.size)
 clear h5 hb4 HC HL
 go_wp2_with fail
 refine h6.mono ?_
 rintro e w6 ⟨rfl, hb6⟩
 have c6 : w6.cell? ⟨w2.heap.size, 0, none⟩ = some (.slice none 0 0) := (hb6.cell (p := ⟨w2.heap.size, 0, none⟩) HL5.out).trans c4
 have h7 := same_none w6 c6
 clear h6 B4 g0 g1 g2 c4 hb6
 go_wp2_with fail
 refine h7.mono ?_
 rintro e w7 ⟨rfl, rfl⟩
 clear h7 c6
 go_wp2
 go_ret
 rfl
set_option maxRecDepth 100000 in
set_option maxHeartbeats 4000000 in
theorem bspSays_ok (g : Gr) (la ea : Option Addr) (lc ec p : Nat) (fr W : Int) (w : World) (hG : GAt w la ea g) (hE : askE g p fr = 0) (h0 : gChk g = 0) (hp : p = 1 \/ p = 2 \/ p = 3) :
   Calls Seq.prog 3 #[.agg #[.int .i64 g.hor, .slice la g.lives.length lc, .slice ea g.edges.length ec], .int .i64 p, .int .i64 fr, .int .i64 W] w fun e w' => e = .returned (.bool true) \/ (¬ Zt zqs w.tape /\ ∃ ch, e = .panicked ch /\ DeadAt w') := by
 have B0 := gbox_start w g la ea lc ec 25
 have h1 := Asked_any g la ea lc ec p fr _ (hG.below B0.bel)
 rw [hE] at h1
 have hPath := bsPaths_any g la ea lc ec p h0 hp
 have HA := hideg (fun X (hb : Below w.heap.size w X) => All_any g la ea lc ec p fr X (hG.below hb) (gChk_right h0) hp)
 have HR := hideg (fun X (hb : Below w.heap.size w X) => bsRun_ok g la ea lc ec p fr X (hG.below hb) hE h0 hPath)
 have HC := hideg (fun X (hb : Below w.heap.size w X) (K : Nat) (hK : 1 <= K /\ K <= 64) => bsCombined_ok g la ea lc ec p K fr X (hG.below hb) hE h0 hK hPath)
 have HD := hideg (fun X (hb : Below w.heap.size w X) (hK : W < 1 \/ 64 < W) => bsCombined_arg g la ea lc ec p fr W X (hG.below hb) hE hK)
 have i1 := fun X => In_any W 1 64 X
 generalize allR g p fr g.hor.toNat = R at *
 have e2 : (R != R) = false := by simp
 have e3 : (R == R) = true := by simp
 clear hG hE h0 hp hPath
 go_enter Seq.func3, Tryz.ntmps3
 go_wp2_with fail
 refine h1.mono ?_
 rintro e w2 ⟨rfl, hb2⟩
 have B2 := B0.below hb2
 clear h1 hb2 B0
 obtain ⟨w3, hw3⟩ : ∃ y, y = w2.alloc (.cells #[.slice none 0 0] 28) := ⟨_, rfl⟩
 have B3 : GBox w w3 w.heap.size g la ea lc ec := by rw [hw3]; exact B2.below (gal _ _)
 have hP3 : w3.heap[w2.heap.size]? = some (.cells #[.slice none 0 0] 28) := by rw [hw3]; show (w2.heap.push _)[w2.heap.size]? = _; exact Array.getElem?_push_size
 have h4 := HA.out w3 B3.bel
 have g0 := B3.c0
 have g1 := B3.c1
 have g2 := B3.c2
 have HP := hideg hP3
 have HL : Hid (w.heap.size < w2.heap.size /\ w2.heap.size < w3.heap.size) := ⟨B2.lt, by rw [hw3]; simp⟩
 have hw3s := hw3.symm
 clear hw3 B2 hP3
 go_wp2_with fail
 refine h4.mono ?_
 rintro e w4 ⟨go, val, rfl, A4, hb4⟩
 have hP4 := (hb4.block _ HL.out.2).trans HP.out
 have B4 := B3.below hb4
 have x0 : w4.cell? ⟨w2.heap.size, 0, none⟩ = some (.slice none 0 0) := by simp [World.cell?, hP4]
 have xf : ∀ q, w4.frozen? ⟨w2.heap.size, q, none⟩ = false := fun q => by simp [World.frozen?, hP4]
 have hx4 : w2.heap.size < w4.heap.size := Nat.lt_of_lt_of_le HL.out.2 hb4.size
 obtain ⟨w5, hw5⟩ : ∃ x, x = w4.setCell ⟨w2.heap.size, 0, none⟩ (.slice (some ⟨go, 0, none⟩) g.lives.length g.lives.length) := ⟨_, rfl⟩
 have hP5 : w5.heap[w2.heap.size]? = some (.cells #[.slice (some ⟨go, 0, none⟩) g.lives.length g.lives.length] 28) := by rw [hw5]; exact Sim.setCell_this hP4
 have hne : ¬ w2.heap.size = w.heap.size := fun e => by have := HL.out.1; omega
 have B5 : GBox w w5 w.heap.size g la ea lc ec := by
   rw [hw5]
   refine ⟨?_, ?_, ?_, B4.bel.setCell (p := ⟨w2.heap.size, 0, none⟩) (by have := HL.out.1; simp only; omega) _, by simpa using B4.lt⟩
   · rw [World.cell?_setCell_far _ _ _ _ hne]; exact B4.c0
   · rw [World.cell?_setCell_far _ _ _ _ hne]; exact B4.c1
   · rw [World.cell?_setCell_far _ _ _ _ hne]; exact B4.c2
 have A5 : AM w5 w3.heap.size go g.lives.length val (fun v => allP g p fr v g.hor.toNat) := by
   rw [hw5]
   refine ⟨ownsRow_setBox A4.own (fun e => ?_), fun v hv => ownsRow_setBox (A4.inn v hv) (fun e => ?_), A4.ap⟩
   · have := (A4.own.lt _ e).1; have := HL.out.2; omega
   · have := ((A4.inn v hv).lt _ e).1; have := HL.out.2; omega
 have c5 : w5.cell? ⟨w2.heap.size, 0, none⟩ = some (.slice (some ⟨go, 0, none⟩) g.lives.length g.lives.length) := by simp [World.cell?, hP5]
 have HL5 : Hid (w2.heap.size < w5.heap.size) := (Array.getElem?_eq_some_iff.1 hP5).1
 have h6 := HR.out w5 B5.bel
 have HA5 := hideg A5
 have HC5 := hideg c5
 have HB5 := hideg B5
 have hw5s := hw5.symm
 clear h4 g0 g1 g2 hw3s HP A4 hb4 hP4 B4 B3 HA hw5 hP5 A5 c5
 have g0 := B5.c0
 have g1 := B5.c1
 have g2 := B5.c2
 clear B5
 go_wp2_with fail
 refine h6.mono ?_
 clear h6 g0 g1 g2 hw5s x0 xf hx4
 rintro e w6 (⟨go6, val6, T6, r6, rfl, A6, hT6, rfl, hb6⟩ | ⟨hz, ch, rfl, hd⟩)
 · have c6 := (hb6.cell (p := ⟨w2.heap.size, 0, none⟩) HL5.out).trans HC5.out
   have h7 := same_rows w6 A6 (HA5.out.below hb6) hT6 c6
   have HB6 := hideg (HB5.out.below hb6)
   have HA6 := hideg (HA5.out.below hb6)
   have HL6 : Hid (w2.heap.size < w6.heap.size) := Nat.lt_of_lt_of_le HL5.out hb6.size
   have HC6 := hideg c6
   clear c6 A6 hT6 hb6 HA5 HB5 HC5 HL5 HR
   go_wp2_with fail
   refine h7.mono ?_
   rintro e w7 ⟨rfl, hb7⟩
   have B7 := HB6.out.below hb7
   have HA7 := hideg (HA6.out.below hb7)
   have HC7 := hideg ((hb7.cell (p := ⟨w2.heap.size, 0, none⟩) HL6.out).trans HC6.out)
   have HL7 : Hid (w2.heap.size < w7.heap.size) := Nat.lt_of_lt_of_le HL6.out hb7.size
   have HB7 := hideg B7
   have g0 := B7.c0
   have g1 := B7.c1
   have g2 := B7.c2
   clear h7 B7 hb7 HB6 HA6 HC6 HL6
   by_cases hW : 1 <= W /\ W <= 64
   · obtain ⟨K, rfl⟩ : ∃ K : Nat, W = K := ⟨W.toNat, by omega⟩
     have iT : inR (K : Int) 1 64 = true := (inR_iff _ _ _).2 hW
     rw [iT] at i1
     have h8 := HC.out w7 HB7.out.bel K ⟨by omega, by omega⟩
     clear HC HD iT
     go_wp2_with fail
     refine h8.mono ?_
     clear h8 g0 g1 g2
     rintro e w8 (⟨go8, val8, T8, r8, rfl, A8, hT8, rfl, hb8⟩ | ⟨hz, ch, rfl, hd⟩)
     · have c8 := (hb8.cell (p := ⟨w2.heap.size, 0, none⟩) HL7.out).trans HC7.out
       have h9 := same_rows w8 A8 (HA7.out.below hb8) hT8 c8
       clear A8 hT8 c8 hb8 HA7 HC7 HL7 HB7
       go_wp2_with (go_at_call 12; refine (i1 _).mono ?_; rintro e w' ⟨rfl, rfl⟩)
       refine h9.mono ?_
       rintro e w9 ⟨rfl, hb9⟩
       clear h9 hb9 i1
       go_wp2
       go_ret
       exact .inl rfl
     · exact ⟨rfl, .inr ⟨fun h => hz (by rw [HB7.out.bel.tape]; exact h), ch, rfl, hd⟩⟩
   · have iT : inR W 1 64 = false := by cases h : inR W 1 64 with
       | false => rfl
       | true => exact absurd ((inR_iff _ _ _).1 h) hW
     rw [iT] at i1
     have h8 := HD.out w7 HB7.out.bel (by omega)
     clear HC HD iT
     go_wp2_with fail
     refine h8.mono ?_
     rintro e w8 ⟨rfl, hb8⟩
     clear h8 g0 g1 g2 hb8 HA7 HC7 HL7 HB7
     go_wp2_with (go_at_call 12; refine (i1 _).mono ?_; rintro e w' ⟨rfl, rfl⟩)
     go_ret
     exact .inl rfl
 · exact ⟨rfl, .inr ⟨fun h => hz (by rw [HB5.out.bel.tape]; exact h), ch, rfl, hd⟩⟩
theorem bspSays_walk (g : Gr) (la ea : Option Addr) (lc ec : Nat) (p fr W : Int) (w : World) (hG : GAt w la ea g) :
   Calls Seq.prog 3 #[.agg #[.int .i64 g.hor, .slice la g.lives.length lc, .slice ea g.edges.length ec], .int .i64 p, .int .i64 fr, .int .i64 W] w fun e w' => e = .returned (.bool true) \/ (¬ Zt zqs w.tape /\ ∃ ch, e = .panicked ch /\ DeadAt w') := by
 by_cases hE : askE g p fr = 0
 · obtain ⟨h0, q, rfl, hq⟩ := bsAsk_zero hE
   exact bspSays_ok g la ea lc ec q fr W w hG hE h0 hq
 · exact (bspSays_err g la ea lc ec p fr W w hG hE).mono fun e w' h => .inl h
end Go.Proofs.YtkgbgkcbflicmabGreat.Q
namespace Go.Proofs.YtkgbgkcbflicmabGreat
open Sim Crw
theorem bspSays_holds : Rows.BspSaysSaid :=
 bspSays_of fun g0 la ea lc0 ec0 t1 t2 t3 s h => Q.bspSays_walk ⟨g0.hor, g0.lives, g0.edges⟩ la ea lc0 ec0 t1 t2 t3 s ⟨h.lv, h.ed, h.nl, h.ne⟩
end Go.Proofs.YtkgbgkcbflicmabGreat
