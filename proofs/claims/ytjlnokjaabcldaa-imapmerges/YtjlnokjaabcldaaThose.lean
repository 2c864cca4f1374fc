/-
  What Those of the reference answers: the set of the times at which something holds that turns at some times alone.
-/
import Derived.Test.YtjlnokjaabcldaaRBnd
import Derived.Test.YtjlnokjaabcldaaTh
import Derived.Test.YtjlnokjaabcldaaBtw
import Derived.Shelf.Abstract
namespace Go.Proofs.Ytjlnokjaabcldaa
open Go.RowKit

theorem encs_append' (a b : List (Int × Int)) : encs (a ++ b) = encs a ++ encs b := by unfold encs; rw [flat_append, List.map_append]
theorem encs_length' (l : List (Int × Int)) : (encs l).length = l.length * 2 := by unfold encs; rw [List.length_map, flat_length]; omega

/-- what the rest of a round needs to know of the world -/
structure Fx (w1 wq : World) (T b off i : Nat) (S : List Int) (v : Value) (out : List (Int × Int)) : Prop where
  c0 : ∀ h : i < S.length, wq.cell? ⟨b, off + i, none⟩ = some (.int .i64 S[i])
  c1 : ∀ h : i + 1 < S.length, wq.cell? ⟨b, off + (i + 1), none⟩ = some (.int .i64 S[i + 1])
  own : wq.ownsRow w1.heap.size T 2 v out.length (encs out)
  bel : Below w1.heap.size w1 wq
  ne : some b ≠ v.ownBlock
  lt : b < wq.heap.size

set_option maxRecDepth 100000 in
set_option maxHeartbeats 4000000 in
theorem those_core (g : Nat) (caps : Array Value) (p : Int → Bool) (eg : ∀ args w, (callFunc g args).run Try.prog w = .ok (.enter g args) w) (w : World)
    (hp : ∀ t wq, Below w.heap.size w wq → Calls Try.prog g (#[.int .i64 t] ++ caps) wq fun e w' => e = .returned (.bool (p t)) ∧ Below wq.heap.size wq w')
    (ao : Option Addr) (n ca : Nat) (A : List Int) (h8 : A.length ≤ 800)
    (hbd : Calls Try.prog 68 #[.slice ao n ca] w fun e w' => ∃ ao' cap' S, e = .returned (.slice ao' S.length cap') ∧ Ordered A S ∧ ZsAt w' ao' S ∧ Below w.heap.size w w') :
    Calls Try.prog 36 #[.slice ao n ca, .func (.func g) #[] caps] w fun e w' => ∃ ao' cap' S out, e = .returned (.slice ao' out.length cap') ∧ Ordered A S ∧ Th S p (S.length - 1) out ∧ IvAt w' ao' out ∧ Below w.heap.size w w' := by
  obtain ⟨i0, hi, hz0, hz1, hz2⟩ := info_parts Try.infoIvl
  have HP : Hid (∀ t wq, Below w.heap.size w wq → Calls Try.prog g (#[.int .i64 t] ++ caps) wq fun e w' => e = .returned (.bool (p t)) ∧ Below wq.heap.size wq w') := hp
  clear hp
  go_enter Try.func36, Try.ntmps36
  go_wp2_with fail
  refine hbd.mono ?_
  rintro e w1 ⟨so, sc, S, rfl, hO, hzS, hb1⟩
  have HO : Hid (Ordered A S) := hO
  have hSl : S.length ≤ 800 := Nat.le_trans hO.len h8
  clear hO hbd
  go_wp2_with fail
  go_loopw [5, 6, 7] (fun v vi _ wr => ∃ (i : Nat) (out : List (Int × Int)), vi = .int .i64 i ∧ (i = 0 ∨ i + 1 ≤ S.length) ∧ Th S p i out ∧ wr.ownsRow w1.heap.size 30 2 v out.length (encs out) ∧ Below w1.heap.size w1 wr) (fun _ vi _ _ => S.length + 1 - (intOf vi).toNat)
  case atStart => exact ⟨0, [], rfl, .inl rfl, th_start S p, World.ownsRow_nil _ _ _ _, Below.refl _ _⟩
  case round =>
    obtain ⟨i, out, rfl, hil, hT, hown, hb⟩ := hrel
    have HT : Hid (Th S p i out) := hT
    have hol := hT.len
    have hi8 : i ≤ 800 := by omega
    clear hT
    by_cases hlt : i + 1 < S.length
    · rcases hzS with h0 | ⟨b, off, rfl, hbw, hc⟩
      · subst h0; simp at hlt
      have c0 : wr.cell? ⟨b, off + i, none⟩ = some (.int .i64 S[i]) := by
        rw [hb.cell (p := ⟨b, off + i, none⟩) hbw, hc i (by omega), List.getD_eq_getElem?_getD, List.getElem?_eq_getElem (by omega)]; rfl
      have hsz := hb.size
      have hi1 : (i : Int) + 1 < (S.length : Int) := by omega
      have hi2 : (i : Int) < (S.length : Int) := by omega
      have hi3 : (0 : Int) ≤ (i : Int) := by omega
      have hcl := HP.out S[i] wr (hb1.trans (hb.mono hb1.size))
      have HF : Hid (∀ w2, Below wr.heap.size wr w2 → ∀ n, Fx w1 (w2.drewN n) 30 b off i S u5 out) := by
        intro w2 h2 n
        have hbb : Below w1.heap.size w1 w2 := hb.trans (h2.mono hb.size)
        refine ⟨fun h => ?_, fun h => ?_, ownsRow_below hown (below_drewN h2 n), below_drewN hbb n, fun h => by have := (hown.lt b h.symm).1; omega, Nat.lt_of_lt_of_le hbw hbb.size⟩
        · show w2.cell? _ = _
          rw [hbb.cell (p := ⟨b, off + i, none⟩) hbw, hc i (by omega), List.getD_eq_getElem?_getD, List.getElem?_eq_getElem h]; rfl
        · show w2.cell? _ = _
          rw [hbb.cell (p := ⟨b, off + (i + 1), none⟩) hbw, hc (i + 1) (by omega), List.getD_eq_getElem?_getD, List.getElem?_eq_getElem h]; rfl
      obtain ⟨vo, vc, hve, _⟩ := ivAt_of_owns hown
      have hce : some b ≠ u5.ownBlock := fun h => by have := (hown.lt b h.symm).1; omega
      clear hc hown
      cases hpi : p S[i] with
      | false =>
        rw [hpi] at hcl
        have HT' : Hid (Th S p (i + 1) out) := th_skip hlt HT.out hpi
        clear hpi hve hce
        go_wp2_with (go_at_fn g; refine hcl.mono ?_; rintro e w2 ⟨rfl, hb2⟩)
        have F := HF.out w2 hb2 0
        go_roundw
        case rel => exact ⟨i + 1, out, by go_num, .inr (by omega), HT'.out, F.own, F.bel⟩
        case measure => simp [intOf]; omega
      | true =>
        rw [hpi] at hcl
        have HPI : Hid (p S[i] = true) := hpi
        clear hpi
        rcases List.eq_nil_or_concat out with h0 | ⟨o, q, h0⟩
        · subst h0
          subst hve
          have HT' : Hid (Th S p (i + 1) ([] ++ [(S[i], S[i + 1])])) := th_put hlt HO.out.inc HT.out HPI.out (fun q h => by simp at h)
          go_wp2_with (go_at_fn g; refine hcl.mono ?_; rintro e w2 ⟨rfl, hb2⟩)
          go_quiet (fail)
          go_wp2
          have F := HF.out w2 hb2 nq
          generalize w2.drewN nq = wq at F ⊢
          clear hb2 c0 hcl
          obtain ⟨d0, d1, hownq, hbq, hne, hbr⟩ := F
          have d0 := d0 (by omega)
          have d1 := d1 hlt
          simp only [List.length_nil] at hownq hne
          have hsq := hbq.size
          have hi4 : (0 : Int) ≤ (i : Int) + 1 := by omega
          have hw1 : IntKind.i64.wrap ((i : Int) + 1) = (i : Int) + 1 := wrap_small _ (by omega) (by omega)
          have HB : Hid (∀ (o : Obj) (w3 : World), ((wq.alloc o).drew).grownBy w3 (Value.slice vo 0 vc).ownBlock → Below w1.heap.size w1 w3) := fun o w3 hgr => ((hbq.alloc hsq o).drew).grown hgr (by simp; omega) (fun j hj => (hownq.lt j hj).1)
          go_region_held3 (fun w' => w'.cell? ⟨b, off + i, none⟩ = some (.int .i64 S[i]) ∧ w'.cell? ⟨b, off + (i + 1), none⟩ = some (.int .i64 S[i + 1]))
            (first
              | go_keep
              | (go_split_ands
                 refine ⟨?_, ?_⟩
                 · (rw [hgrow.cell_far _ (by simp; omega) hne]; assumption)
                 · (rw [hgrow.cell_far _ (by simp; omega) hne]; assumption)))
            ((refine step_append_lies _ (by rfl) _ _ _ (by rfl) w1.heap.size 30 i0 _ 2 16 Try.underlying22 hi hz0 hz1 hz2 rfl (by omega) (.slice vo 0 vc) 0 (encs []) (by rfl) ((hownq.alloc _).drew) ⟨wq.heap.size, 0, none⟩ 1 1 [.int .i64 S[i], .int .i64 S[i + 1]] (by rfl) (by rfl) (World.news_of_block (cs := #[.int .i64 S[i], .int .i64 S[i + 1]]) (t := 30) (fr := (0, 0)) (heap_alloc_new wq _)) (by simp [Value.oneCell']) (by omega) (by unfold maxLen; omega) (by omega) (by simp; omega) (wq.heap.size + 1) (by simp) ?_; intro gg cap1 w3 hown1 hgrow hat hltg))
          have hb' := HB.out _ _ hgrow
          have R : w3.ownsRow w1.heap.size 30 2 (.slice (some ⟨gg, 0, none⟩) (0 + 1) cap1) ([] ++ [(S[i], S[i + 1])]).length (encs ([] ++ [(S[i], S[i + 1])])) := hown1
          clear hgrow hownq hat hltg hne hown1
          go_wp2
          go_roundw
          case rel => exact ⟨i + 1, _, by go_num, .inr (by omega), HT'.out, R, hb'⟩
          case measure => simp [intOf]; omega
        · rw [List.concat_eq_append] at h0
          have hom : out.length = o.length + 1 := by rw [h0]; simp
          have HOQ : Hid (out = o ++ [q]) := h0
          have fp := flat_getD out o.length (by omega)
          have hgp : out.getD o.length (0, 0) = q := by rw [h0]; simp
          rw [hgp] at fp
          have HFP : Hid ((flat out)[o.length * 2]? = some q.1 ∧ (flat out)[o.length * 2 + 1]? = some q.2) := fp
          have hpp : Hid (out.getLast? = some q) := by show _ = _; rw [h0]; simp
          have HOM : Hid (out.length = o.length + 1) := hom
          rw [hom] at hve hol
          subst hve
          clear h0 hgp fp hom
          generalize hm : o.length = m at *
          have HM : Hid (o.length = m) := hm
          clear hm
          have hvs : ∀ w2, Below wr.heap.size wr w2 → ∃ gb, vo = some ⟨gb, 0, none⟩ ∧ ∀ n, (w2.drewN n).cell? ⟨gb, m * 2 + 1, none⟩ = some (.int .i64 q.2) ∧ (w2.drewN n).frozen? ⟨gb, m * 2 + 1, none⟩ = false ∧ w1.heap.size ≤ gb ∧ gb < w2.heap.size := by
            intro w2 h2
            have F := HF.out w2 h2 0
            have hq := F.own
            rw [HOM.out] at hq
            rcases hq.2 with ⟨_, h9⟩ | ⟨gb, c9, cur, e9, _⟩
            · omega
            · simp only [Value.slice.injEq, true_and] at e9
              obtain ⟨rfl, rfl⟩ := e9
              refine ⟨gb, rfl, fun n => ⟨?_, hq.frozenAt _, (hq.lt gb rfl).1, (hq.lt gb rfl).2⟩⟩
              show (w2.drewN 0).cell? _ = _
              rw [hq.cellAt (m * 2 + 1) (by omega)]
              simp [encs, HFP.out.2]
          have HVS : Hid (∀ w2, Below wr.heap.size wr w2 → ∃ gb, vo = some ⟨gb, 0, none⟩ ∧ ∀ n, (w2.drewN n).cell? ⟨gb, m * 2 + 1, none⟩ = some (.int .i64 q.2) ∧ (w2.drewN n).frozen? ⟨gb, m * 2 + 1, none⟩ = false ∧ w1.heap.size ≤ gb ∧ gb < w2.heap.size) := hvs
          obtain ⟨gb, rfl, _⟩ := hvs wr (Below.refl _ _)
          clear hvs
          have dm0 : (0 : Int) < (m : Int) + 1 := by omega
          have dm1 : (0 : Int) ≤ (m : Int) := by omega
          have dm2 : (m : Int) < (m : Int) + 1 := by omega
          go_wp2_with (go_at_fn g; refine hcl.mono ?_; rintro e w2 ⟨rfl, hb2⟩)
          have F := HF.out w2 hb2
          obtain ⟨gb', e', hcm⟩ := HVS.out w2 hb2
          simp only [Option.some.injEq, Addr.mk.injEq, and_true] at e'
          subst e'
          have cm := (hcm 0).1
          have hgb := (hcm 0).2.2
          have c02 := (F 0).c0 (by omega)
          have hb2' : b < w2.heap.size := (F 0).lt
          have HCM : Hid (∀ n, (w2.drewN n).cell? ⟨gb, m * 2 + 1, none⟩ = some (.int .i64 q.2) ∧ (w2.drewN n).frozen? ⟨gb, m * 2 + 1, none⟩ = false ∧ w1.heap.size ≤ gb ∧ gb < w2.heap.size) := hcm
          have HFF : Hid (∀ n, Fx w1 (w2.drewN n) 30 b off i S (.slice (some ⟨gb, 0, none⟩) (m + 1) vc) out) := F
          clear hcm F c0 hcl
          change w2.cell? _ = _ at cm c02
          by_cases g1 : q.2 = S[i]
          · have HT' : Hid (Th S p (i + 1) (o ++ [(q.1, S[i + 1])])) := th_more hlt HO.out.inc (by rw [← HOQ.out]; exact HT.out) HPI.out g1
            have e1 : (q.2 == S[i]) = true := by simp [g1]
            have c12 := (HFF.out 0).c1 hlt
            have fz := (HCM.out 0).2.1
            change w2.cell? _ = _ at c12
            change w2.frozen? _ = _ at fz
            have hi4 : (0 : Int) ≤ (i : Int) + 1 := by omega
            have HST : Hid (∀ n, ((w2.drewN n).setCell ⟨gb, m * 2 + 1, none⟩ (.int .i64 S[i + 1])).ownsRow w1.heap.size 30 2 (.slice (some ⟨gb, 0, none⟩) (m + 1) vc) (o ++ [(q.1, S[i + 1])]).length (encs (o ++ [(q.1, S[i + 1])])) ∧ Below w1.heap.size w1 ((w2.drewN n).setCell ⟨gb, m * 2 + 1, none⟩ (.int .i64 S[i + 1]))) := by
              intro n
              have hq := (HFF.out n).own
              rw [HOM.out] at hq
              have hst := (hq.stored (m * 2 + 1) (.int .i64 S[i + 1])).1
              have he : (encs out).set (m * 2 + 1) (.int .i64 S[i + 1]) = encs (o ++ [(q.1, S[i + 1])]) := by
                rw [HOQ.out, encs_append', encs_append', List.set_append_right _ _ (by rw [encs_length', HM.out]; omega), encs_length', HM.out, show m * 2 + 1 - m * 2 = 1 by omega]
                rfl
              rw [he] at hst
              have hlen : (o ++ [(q.1, S[i + 1])]).length = m + 1 := by simp [HM.out]
              rw [hlen]
              exact ⟨hst, (HFF.out n).bel.setCell hgb.1 _⟩
            clear g1
            go_quiet (fail)
            go_wp2
            go_roundw
            case rel => exact ⟨i + 1, _, by go_num, .inr (by omega), HT'.out, (HST.out _).1, (HST.out _).2⟩
            case measure => simp [intOf]; omega
          · have HT' : Hid (Th S p (i + 1) (out ++ [(S[i], S[i + 1])])) := th_put hlt HO.out.inc HT.out HPI.out (fun r h => by rw [hpp.out] at h; cases h; exact g1)
            have e1 : (q.2 == S[i]) = false := by simp [g1]
            clear g1
            go_quiet (fail)
            go_wp2
            have F := HFF.out nq
            have cmq := (HCM.out nq).1
            generalize w2.drewN nq = wq at F cmq ⊢
            clear cm c02
            obtain ⟨d0, d1, hownq, hbq, hne, hbr⟩ := F
            have d0 := d0 (by omega)
            have d1 := d1 hlt
            rw [HOM.out] at hownq
            have hsq := hbq.size
            have hi4 : (0 : Int) ≤ (i : Int) + 1 := by omega
            have hw1 : IntKind.i64.wrap ((i : Int) + 1) = (i : Int) + 1 := wrap_small _ (by omega) (by omega)
            have HB : Hid (∀ (o : Obj) (w3 : World), ((wq.alloc o).drew).grownBy w3 (Value.slice (some ⟨gb, 0, none⟩) (m + 1) vc).ownBlock → Below w1.heap.size w1 w3) := fun o w3 hgr => ((hbq.alloc hsq o).drew).grown hgr (by simp; omega) (fun j hj => (hownq.lt j hj).1)
            go_region_held3 (fun w' => w'.cell? ⟨b, off + i, none⟩ = some (.int .i64 S[i]) ∧ w'.cell? ⟨b, off + (i + 1), none⟩ = some (.int .i64 S[i + 1]))
              (first
                | go_keep
                | (go_split_ands
                   refine ⟨?_, ?_⟩
                   · (rw [hgrow.cell_far _ (by simp; omega) hne]; assumption)
                   · (rw [hgrow.cell_far _ (by simp; omega) hne]; assumption)))
              ((refine step_append_lies _ (by rfl) _ _ _ (by rfl) w1.heap.size 30 i0 _ 2 16 Try.underlying22 hi hz0 hz1 hz2 rfl (by omega) (.slice (some ⟨gb, 0, none⟩) (m + 1) vc) (m + 1) (encs out) (by rfl) ((hownq.alloc _).drew) ⟨wq.heap.size, 0, none⟩ 1 1 [.int .i64 S[i], .int .i64 S[i + 1]] (by rfl) (by rfl) (World.news_of_block (cs := #[.int .i64 S[i], .int .i64 S[i + 1]]) (t := 30) (fr := (0, 0)) (heap_alloc_new wq _)) (by simp [Value.oneCell']) (by omega) (by unfold maxLen; omega) (by omega) (by simp; omega) (wq.heap.size + 1) (by simp) ?_; intro gg cap1 w3 hown1 hgrow hat hltg))
            have hb' := HB.out _ _ hgrow
            have R : w3.ownsRow w1.heap.size 30 2 (.slice (some ⟨gg, 0, none⟩) (m + 1 + 1) cap1) (out ++ [(S[i], S[i + 1])]).length (encs (out ++ [(S[i], S[i + 1])])) := by
              rw [encs_append', List.length_append, HOM.out]; exact hown1
            clear hgrow hownq hat hltg hne hown1
            go_wp2
            go_roundw
            case rel => exact ⟨i + 1, _, by go_num, .inr (by omega), HT'.out, R, hb'⟩
            case measure => simp [intOf]; omega
    · have hil' : i = S.length - 1 := by omega
      have HT' : Hid (Th S p (S.length - 1) out) := by rw [← hil']; exact HT
      obtain ⟨vo, vc, rfl, hz⟩ := ivAt_of_owns hown
      have hbb : Below w.heap.size w wr := hb1.trans (hb.mono hb1.size)
      clear hown hil' hzS
      have hi1 : ¬ ((i : Int) + 1 < (S.length : Int)) := by omega
      go_wp2
      go_ret
      exact ⟨_, _, S, out, rfl, HO.out, HT'.out, hz, hbb⟩

end Go.Proofs.Ytjlnokjaabcldaa
