/-
  What Told of the reference answers where what is asked keeps a block of its own: the map of what is told at the times of a list, and what the block holds then.
-/
import Derived.Test.YtjlnokjaabcldabDoorRBnd
import Derived.Test.YtjlnokjaabcldabDoorPExt
import Derived.Test.YtjlnokjaabcldabDoorPBld
import Derived.Test.YtjlnokjaabcldabDoorGby
import Derived.Shelf.Abstract
namespace Go.Proofs.YtjlnokjaabcldabDoor
open Go.RowKit

/-- what the rest of a round needs to know of the world -/
structure Fx4 (ge : Nat) (w1 wq : World) (T b off i : Nat) (S : List Int) (v : Value) (out : List (Int × Int × Int)) : Prop where
  c0 : ∀ h : i < S.length, wq.cell? ⟨b, off + i, none⟩ = some (.int .i64 S[i])
  c1 : ∀ h : i + 1 < S.length, wq.cell? ⟨b, off + (i + 1), none⟩ = some (.int .i64 S[i + 1])
  own : wq.ownsRow w1.heap.size T 3 v out.length (enc3 out)
  bel : w1.grownBy wq (some ge)
  ne : some b ≠ v.ownBlock
  lt : b < wq.heap.size

set_option maxRecDepth 100000 in
set_option maxHeartbeats 4000000 in
theorem told_st (ge : Nat) (I : List Int → World → Prop) (g : Nat) (caps : Array Value) (f : Int → Option Int) (eg : ∀ args w, (callFunc g args).run Tryd.prog w = .ok (.enter g args) w) (w : World)
    (hge : ge < w.heap.size) (hI : ∀ ts wq w', I ts wq → Below w.heap.size wq w' → I ts w') (hI0 : I [] w)
    (hp : ∀ ts t wq, I ts wq → w.grownBy wq (some ge) → Calls Tryd.prog g (#[.int .i64 t] ++ caps) wq fun e w' => (∃ x, e = .returned (.tuple #[.int .i64 x, .bool (f t).isSome]) ∧ ∀ y, f t = some y → x = y) ∧ wq.grownBy w' (some ge) ∧ I (ts ++ [t]) w')
    (ao : Option Addr) (n ca : Nat) (A : List Int) (h8 : A.length ≤ 800)
    (hbd : Calls Tryd.prog 18 #[.slice ao n ca] w fun e w' => ∃ ao' cap' S, e = .returned (.slice ao' S.length cap') ∧ Ordered A S ∧ ZsAt w' ao' S ∧ Below w.heap.size w w' ∧ ∀ b' o', ao' = some ⟨b', o', none⟩ → w.heap.size ≤ b') :
    Calls Tryd.prog 28 #[.slice ao n ca, .func (.func g) #[] caps] w fun e w' => ∃ v S out, e = .returned v ∧ Ordered A S ∧ Tl S f (S.length - 1) out ∧ w'.ownsRow w.heap.size 36 3 v out.length (enc3 out) ∧ w.grownBy w' (some ge) ∧ I (S.take (S.length - 1)) w' := by
  obtain ⟨i0, hi, hz0, hz1, hz2⟩ := info_parts Tryd.infoPiece
  have HP := hideT hp
  have HI := hideT hI
  have HI0 := hideT hI0
  clear hp hI hI0
  go_enter Tryd.func28, Tryd.ntmps28
  go_wp2_with fail
  refine hbd.mono ?_
  rintro e w1 ⟨so, sc, S, rfl, hO, hzS, hb1, hfr⟩
  have HFR := hideT hfr
  have HI1 := hideT (HI.out [] w w1 HI0.out hb1)
  clear hfr HI0
  have HO : Hid (Ordered A S) := hO
  have hSl : S.length ≤ 800 := Nat.le_trans hO.len h8
  clear hO hbd
  go_wp2_with fail
  go_loopw [5, 6, 7, 8, 9] (fun v vi _ _ _ wr => ∃ (i : Nat) (out : List (Int × Int × Int)), vi = .int .i64 i ∧ (i = 0 ∨ i + 1 ≤ S.length) ∧ Tl S f i out ∧ wr.ownsRow w1.heap.size 36 3 v out.length (enc3 out) ∧ w1.grownBy wr (some ge) ∧ I (S.take i) wr) (fun _ vi _ _ _ _ => S.length + 1 - (intOf vi).toNat)
  case atStart => exact ⟨0, [], rfl, .inl rfl, tl_start S f, World.ownsRow_nil _ _ _ _, gby_refl _ _, HI1.out⟩
  case round =>
    obtain ⟨i, out, rfl, hil, hT, hown, hb, hIi⟩ := hrel
    have HII := hideT hIi
    clear hIi
    have hge1 : ge < w1.heap.size := Nat.lt_of_lt_of_le hge hb1.size
    have hne : ∀ k, w1.heap.size ≤ k → some k ≠ some ge := fun k hk h => by cases h; omega
    have hgw : w.grownBy wr (some ge) := gby_trans (gby_of_below hb1 _) hb
    have HT : Hid (Tl S f i out) := hT
    have hol := hT.len
    have hi8 : i ≤ 800 := by omega
    clear hT
    by_cases hlt : i + 1 < S.length
    · rcases hzS with h0 | ⟨b, off, rfl, hbw, hc⟩
      · subst h0; simp at hlt
      have hbe : some b ≠ some ge := fun h => by have h1 := HFR.out b off rfl; have h2 := Option.some.inj h; omega
      have c0 : wr.cell? ⟨b, off + i, none⟩ = some (.int .i64 S[i]) := by
        rw [hb.cell_far ⟨b, off + i, none⟩ hbw hbe, hc i (by omega), List.getD_eq_getElem?_getD, List.getElem?_eq_getElem (by omega)]; rfl
      have hsz := hb.size
      have hi1 : (i : Int) + 1 < (S.length : Int) := by omega
      have hi2 : (i : Int) < (S.length : Int) := by omega
      have hi3 : (0 : Int) ≤ (i : Int) := by omega
      have hcl := HP.out (S.take i) S[i] wr HII.out hgw
      have hts : S.take i ++ [S[i]] = S.take (i + 1) := (take_succ_get S i (by omega)).symm
      rw [hts] at hcl
      have hoe : ∀ v n xs (W : World), W.ownsRow w1.heap.size 36 3 v n xs → v.ownBlock = none ∨ v.ownBlock ≠ some ge := by
        intro v n xs W h
        cases hk : v.ownBlock with
        | none => exact .inl rfl
        | some k => exact .inr (fun h' => by cases h'; have := (h.lt ge hk).1; omega)
      have hoe' := hoe _ _ _ _ hown
      have HF : Hid (∀ w2, wr.grownBy w2 (some ge) → ∀ n, Fx4 ge w1 (w2.drewN n) 36 b off i S u5 out) := by
        intro w2 h2 n
        have hbb : w1.grownBy w2 (some ge) := gby_trans hb h2
        refine ⟨fun h => ?_, fun h => ?_, hown.kept (row := some ge) (gby_drewN h2 n) hoe', gby_drewN hbb n, fun h => by have := (hown.lt b h.symm).1; omega, Nat.lt_of_lt_of_le hbw hbb.size⟩
        · show w2.cell? _ = _
          rw [hbb.cell_far ⟨b, off + i, none⟩ hbw hbe, hc i (by omega), List.getD_eq_getElem?_getD, List.getElem?_eq_getElem h]; rfl
        · show w2.cell? _ = _
          rw [hbb.cell_far ⟨b, off + (i + 1), none⟩ hbw hbe, hc (i + 1) (by omega), List.getD_eq_getElem?_getD, List.getElem?_eq_getElem h]; rfl
      obtain ⟨vo, vc, hve, _⟩ := pcAt_of_owns hown
      have hce : some b ≠ u5.ownBlock := fun h => by have := (hown.lt b h.symm).1; omega
      clear hc hown
      cases hpi : f S[i] with
      | none =>
        rw [hpi] at hcl
        simp only [Option.isSome_none] at hcl
        have HT' : Hid (Tl S f (i + 1) out) := tl_skip hlt HT.out hpi
        clear hpi hve hce
        go_wp2_with (go_at_fn g; refine hcl.mono ?_; rintro e w2 ⟨⟨x, rfl, _⟩, hb2, hI2⟩)
        have F := HF.out w2 hb2 0
        go_roundw
        case rel => exact ⟨i + 1, out, by go_num, .inr (by omega), HT'.out, F.own, F.bel, hI2⟩
        case measure => simp [intOf]; omega
      | some y =>
        rw [hpi] at hcl
        simp only [Option.isSome_some] at hcl
        have hcl' := hcl.mono (fun e w' (h : (∃ x, e = .returned (.tuple #[.int .i64 x, .bool true]) ∧ ∀ y', some y = some y' → x = y') ∧ wr.grownBy w' (some ge) ∧ I (S.take (i + 1)) w') => (show e = .returned (.tuple #[.int .i64 y, .bool true]) ∧ wr.grownBy w' (some ge) ∧ Hid (I (S.take (i + 1)) w') from by obtain ⟨⟨x, he, hx⟩, hb', hi'⟩ := h; rw [hx y rfl] at he; exact ⟨he, hb', hi'⟩))
        have HTE : Hid (Tl S f (i + 1) (ext out (S[i], S[i + 1], y))) := tl_ext hlt HO.out.inc HT.out hpi
        clear hpi hcl
        rcases List.eq_nil_or_concat out with h0 | ⟨o, q, h0⟩
        · subst h0
          subst hve
          have HT' : Hid (Tl S f (i + 1) ([] ++ [(S[i], S[i + 1], y)])) := HTE.out
          go_wp2_with (go_at_fn g; refine hcl'.mono ?_; rintro e w2 ⟨rfl, hb2, HI2⟩)
          go_quiet (fail)
          go_wp2
          have F := HF.out w2 hb2 nq
          have HIq := hideT (HI.out _ w2 (w2.drewN nq) HI2.out (below_drewN (Below.refl _ _) nq))
          have hsw : w.heap.size ≤ (w2.drewN nq).heap.size := Nat.le_trans hgw.size hb2.size
          generalize w2.drewN nq = wq at F HIq hsw ⊢
          clear hb2 c0 hcl' HI2
          obtain ⟨d0, d1, hownq, hbq, hne, hbr⟩ := F
          have d0 := d0 (by omega)
          have d1 := d1 hlt
          simp only [List.length_nil] at hownq hne
          have hsq := hbq.size
          have hi4 : (0 : Int) ≤ (i : Int) + 1 := by omega
          have hw1 : IntKind.i64.wrap ((i : Int) + 1) = (i : Int) + 1 := wrap_small _ (by omega) (by omega)
          have HB : Hid (∀ (o : Obj) (w3 : World), ((wq.alloc o).drew).grownBy w3 (Value.slice vo 0 vc).ownBlock → w1.grownBy w3 (some ge) ∧ I (S.take (i + 1)) w3) := fun o w3 hgr => ⟨gby_own hbq o hgr (fun j hj => (hownq.lt j hj).1), HI.out _ _ _ HIq.out (below_own hsw o hgr (fun j hj => Nat.le_trans hb1.size (hownq.lt j hj).1))⟩
          go_region_held3 (fun w' => w'.cell? ⟨b, off + i, none⟩ = some (.int .i64 S[i]) ∧ w'.cell? ⟨b, off + (i + 1), none⟩ = some (.int .i64 S[i + 1]))
            (first
              | go_keep
              | (go_split_ands
                 refine ⟨?_, ?_⟩
                 · (rw [hgrow.cell_far _ (by simp; omega) hne]; assumption)
                 · (rw [hgrow.cell_far _ (by simp; omega) hne]; assumption)))
            ((refine step_append_lies _ (by rfl) _ _ _ (by rfl) w1.heap.size 36 i0 _ 3 24 Tryd.underlying22 hi hz0 hz1 hz2 rfl (by omega) (.slice vo 0 vc) 0 (enc3 []) (by rfl) ((hownq.alloc _).drew) ⟨wq.heap.size, 0, none⟩ 1 1 [.int .i64 S[i], .int .i64 S[i + 1], .int .i64 y] (by rfl) (by rfl) (World.news_of_block (cs := #[.int .i64 S[i], .int .i64 S[i + 1], .int .i64 y]) (t := 36) (fr := (0, 0)) (heap_alloc_new wq _)) (by simp [Value.oneCell']) (by omega) (by unfold maxLen; omega) (by omega) (by simp; omega) (wq.heap.size + 1) (by simp) ?_; intro gg cap1 w3 hown1 hgrow hat hltg))
          have hb' := HB.out _ _ hgrow
          have R : w3.ownsRow w1.heap.size 36 3 (.slice (some ⟨gg, 0, none⟩) (0 + 1) cap1) ([] ++ [(S[i], S[i + 1], y)]).length (enc3 ([] ++ [(S[i], S[i + 1], y)])) := hown1
          clear hgrow hownq hat hltg hne hown1
          go_wp2
          go_roundw
          case rel => exact ⟨i + 1, _, by go_num, .inr (by omega), HT'.out, R, hb'.1, hb'.2⟩
          case measure => simp [intOf]; omega
        · rw [List.concat_eq_append] at h0
          have hom : out.length = o.length + 1 := by rw [h0]; simp
          have HOQ : Hid (out = o ++ [q]) := h0
          have fp := flat3_getD out o.length (by omega)
          have hgp : out.getD o.length (0, 0, 0) = q := by rw [h0]; simp
          rw [hgp] at fp
          have HFP : Hid ((flat3 out)[o.length * 3]? = some q.1 ∧ (flat3 out)[o.length * 3 + 1]? = some q.2.1 ∧ (flat3 out)[o.length * 3 + 2]? = some q.2.2) := fp
          have hle : q.2.1 ≤ S[i] := tl_last_le hlt HO.out.inc HT.out (by rw [h0]; simp)
          have HOM : Hid (out.length = o.length + 1) := hom
          rw [hom] at hve hol
          subst hve
          clear h0 hgp fp hom
          generalize hm : o.length = m at *
          have HM : Hid (o.length = m) := hm
          clear hm
          have hvs : ∀ w2, wr.grownBy w2 (some ge) → ∃ gb, vo = some ⟨gb, 0, none⟩ ∧ ∀ n, ((w2.drewN n).cell? ⟨gb, m * 3 + 1, none⟩ = some (.int .i64 q.2.1) ∧ (w2.drewN n).cell? ⟨gb, m * 3 + 2, none⟩ = some (.int .i64 q.2.2)) ∧ (w2.drewN n).frozen? ⟨gb, m * 3 + 1, none⟩ = false ∧ w1.heap.size ≤ gb ∧ gb < w2.heap.size := by
            intro w2 h2
            have F := HF.out w2 h2 0
            have hq := F.own
            rw [HOM.out] at hq
            rcases hq.2 with ⟨_, h9⟩ | ⟨gb, c9, cur, e9, _⟩
            · omega
            · simp only [Value.slice.injEq, true_and] at e9
              obtain ⟨rfl, rfl⟩ := e9
              refine ⟨gb, rfl, fun n => ⟨⟨?_, ?_⟩, hq.frozenAt _, (hq.lt gb rfl).1, (hq.lt gb rfl).2⟩⟩
              · show (w2.drewN 0).cell? _ = _
                rw [hq.cellAt (m * 3 + 1) (by omega)]
                simp [enc3, HFP.out.2.1]
              · show (w2.drewN 0).cell? _ = _
                rw [hq.cellAt (m * 3 + 2) (by omega)]
                simp [enc3, HFP.out.2.2]
          have HVS : Hid (∀ w2, wr.grownBy w2 (some ge) → ∃ gb, vo = some ⟨gb, 0, none⟩ ∧ ∀ n, ((w2.drewN n).cell? ⟨gb, m * 3 + 1, none⟩ = some (.int .i64 q.2.1) ∧ (w2.drewN n).cell? ⟨gb, m * 3 + 2, none⟩ = some (.int .i64 q.2.2)) ∧ (w2.drewN n).frozen? ⟨gb, m * 3 + 1, none⟩ = false ∧ w1.heap.size ≤ gb ∧ gb < w2.heap.size) := hvs
          obtain ⟨gb, rfl, _⟩ := hvs wr (gby_refl _ _)
          clear hvs
          have dm0 : (0 : Int) < (m : Int) + 1 := by omega
          have dm1 : (0 : Int) ≤ (m : Int) := by omega
          have dm2 : (m : Int) < (m : Int) + 1 := by omega
          go_wp2_with (go_at_fn g; refine hcl'.mono ?_; rintro e w2 ⟨rfl, hb2, HI2⟩)
          have F := HF.out w2 hb2
          obtain ⟨gb', e', hcm⟩ := HVS.out w2 hb2
          simp only [Option.some.injEq, Addr.mk.injEq, and_true] at e'
          subst e'
          have cm := (hcm 0).1.1
          have cv := (hcm 0).1.2
          have hgb := (hcm 0).2.2
          have c02 := (F 0).c0 (by omega)
          have hb2' : b < w2.heap.size := (F 0).lt
          have HCM : Hid (∀ n, ((w2.drewN n).cell? ⟨gb, m * 3 + 1, none⟩ = some (.int .i64 q.2.1) ∧ (w2.drewN n).cell? ⟨gb, m * 3 + 2, none⟩ = some (.int .i64 q.2.2)) ∧ (w2.drewN n).frozen? ⟨gb, m * 3 + 1, none⟩ = false ∧ w1.heap.size ≤ gb ∧ gb < w2.heap.size) := hcm
          have HFF : Hid (∀ n, Fx4 ge w1 (w2.drewN n) 36 b off i S (.slice (some ⟨gb, 0, none⟩) (m + 1) vc) out) := F
          have HIW := hideT (fun n => HI.out _ w2 (w2.drewN n) HI2.out (below_drewN (Below.refl _ _) n))
          have hsw2 : w.heap.size ≤ w2.heap.size := Nat.le_trans hgw.size hb2.size
          clear hcm F c0 hcl'
          change w2.cell? _ = _ at cm cv c02
          by_cases g1 : q.2.1 = S[i] ∧ q.2.2 = y
          · have hfo : folB q (S[i], S[i + 1], y) = false := by rw [← Bool.not_eq_true, folB_iff]; unfold Fol; simp only; omega
            have HT' : Hid (Tl S f (i + 1) (o ++ [(q.1, S[i + 1], q.2.2)])) := by have := HTE.out; rw [HOQ.out, ext_no hfo] at this; exact this
            have e1 : (q.2.1 == S[i]) = true := by simp [g1.1]
            have e2 : (q.2.2 == y) = true := by simp [g1.2]
            have c12 := (HFF.out 0).c1 hlt
            have fz := (HCM.out 0).2.1
            change w2.cell? _ = _ at c12
            change w2.frozen? _ = _ at fz
            have hi4 : (0 : Int) ≤ (i : Int) + 1 := by omega
            have HST : Hid (∀ n, ((w2.drewN n).setCell ⟨gb, m * 3 + 1, none⟩ (.int .i64 S[i + 1])).ownsRow w1.heap.size 36 3 (.slice (some ⟨gb, 0, none⟩) (m + 1) vc) (o ++ [(q.1, S[i + 1], q.2.2)]).length (enc3 (o ++ [(q.1, S[i + 1], q.2.2)])) ∧ w1.grownBy ((w2.drewN n).setCell ⟨gb, m * 3 + 1, none⟩ (.int .i64 S[i + 1])) (some ge) ∧ I (S.take (i + 1)) ((w2.drewN n).setCell ⟨gb, m * 3 + 1, none⟩ (.int .i64 S[i + 1]))) := by
              intro n
              have hq := (HFF.out n).own
              rw [HOM.out] at hq
              have hst := (hq.stored (m * 3 + 1) (.int .i64 S[i + 1])).1
              have he : (enc3 out).set (m * 3 + 1) (.int .i64 S[i + 1]) = enc3 (o ++ [(q.1, S[i + 1], q.2.2)]) := by
                rw [HOQ.out, enc3_append, enc3_append, List.set_append_right _ _ (by rw [enc3_length, HM.out]; omega), enc3_length, HM.out, show m * 3 + 1 - m * 3 = 1 by omega]
                rfl
              rw [he] at hst
              have hlen : (o ++ [(q.1, S[i + 1], q.2.2)]).length = m + 1 := by simp [HM.out]
              rw [hlen]
              exact ⟨hst, gby_setHigh (HFF.out n).bel hgb.1 _, HI.out _ _ _ (HIW.out n) ((Below.refl _ _).setCell (p := ⟨gb, m * 3 + 1, none⟩) (Nat.le_trans hb1.size hgb.1) _)⟩
            clear g1 hfo hle
            go_quiet (fail)
            go_wp2
            go_roundw
            case rel => exact ⟨i + 1, _, by go_num, .inr (by omega), HT'.out, (HST.out _).1, (HST.out _).2.1, (HST.out _).2.2⟩
            case measure => simp [intOf]; omega
          · have hfo : folB q (S[i], S[i + 1], y) = true := by rw [folB_iff]; unfold Fol; simp only; omega
            have HT' : Hid (Tl S f (i + 1) (out ++ [(S[i], S[i + 1], y)])) := by have := HTE.out; rw [HOQ.out, ext_yes hfo] at this; rw [HOQ.out]; exact this
            have hor : (q.2.1 == S[i]) = false ∨ ((q.2.1 == S[i]) = true ∧ (q.2.2 == y) = false) := by
              by_cases h : q.2.1 = S[i]
              · exact .inr ⟨by simp [h], by simp; exact fun h' => g1 ⟨h, h'⟩⟩
              · exact .inl (by simp [h])
            clear g1 hfo hle
            rcases hor with e1 | ⟨e1, e2⟩
            all_goals
              go_quiet (fail)
              go_wp2
              have F := HFF.out nq
              have HIq := hideT (HIW.out nq)
              have hsw : w.heap.size ≤ (w2.drewN nq).heap.size := hsw2
              generalize w2.drewN nq = wq at F HIq hsw ⊢
              clear cm cv c02
              obtain ⟨d0, d1, hownq, hbq, hne, hbr⟩ := F
              have d0 := d0 (by omega)
              have d1 := d1 hlt
              rw [HOM.out] at hownq
              have hsq := hbq.size
              have hi4 : (0 : Int) ≤ (i : Int) + 1 := by omega
              have hw1 : IntKind.i64.wrap ((i : Int) + 1) = (i : Int) + 1 := wrap_small _ (by omega) (by omega)
              have HB : Hid (∀ (o : Obj) (w3 : World), ((wq.alloc o).drew).grownBy w3 (Value.slice (some ⟨gb, 0, none⟩) (m + 1) vc).ownBlock → w1.grownBy w3 (some ge) ∧ I (S.take (i + 1)) w3) := fun o w3 hgr => ⟨gby_own hbq o hgr (fun j hj => (hownq.lt j hj).1), HI.out _ _ _ HIq.out (below_own hsw o hgr (fun j hj => Nat.le_trans hb1.size (hownq.lt j hj).1))⟩
              go_region_held3 (fun w' => w'.cell? ⟨b, off + i, none⟩ = some (.int .i64 S[i]) ∧ w'.cell? ⟨b, off + (i + 1), none⟩ = some (.int .i64 S[i + 1]))
                (first
                  | go_keep
                  | (go_split_ands
                     refine ⟨?_, ?_⟩
                     · (rw [hgrow.cell_far _ (by simp; omega) hne]; assumption)
                     · (rw [hgrow.cell_far _ (by simp; omega) hne]; assumption)))
                ((refine step_append_lies _ (by rfl) _ _ _ (by rfl) w1.heap.size 36 i0 _ 3 24 Tryd.underlying22 hi hz0 hz1 hz2 rfl (by omega) (.slice (some ⟨gb, 0, none⟩) (m + 1) vc) (m + 1) (enc3 out) (by rfl) ((hownq.alloc _).drew) ⟨wq.heap.size, 0, none⟩ 1 1 [.int .i64 S[i], .int .i64 S[i + 1], .int .i64 y] (by rfl) (by rfl) (World.news_of_block (cs := #[.int .i64 S[i], .int .i64 S[i + 1], .int .i64 y]) (t := 36) (fr := (0, 0)) (heap_alloc_new wq _)) (by simp [Value.oneCell']) (by omega) (by unfold maxLen; omega) (by omega) (by simp; omega) (wq.heap.size + 1) (by simp) ?_; intro gg cap1 w3 hown1 hgrow hat hltg))
              have hb' := HB.out _ _ hgrow
              have R : w3.ownsRow w1.heap.size 36 3 (.slice (some ⟨gg, 0, none⟩) (m + 1 + 1) cap1) (out ++ [(S[i], S[i + 1], y)]).length (enc3 (out ++ [(S[i], S[i + 1], y)])) := by
                rw [enc3_append, List.length_append, HOM.out]; exact hown1
              clear hgrow hownq hat hltg hne hown1
              go_wp2
              go_roundw
              case rel => exact ⟨i + 1, _, by go_num, .inr (by omega), HT'.out, R, hb'.1, hb'.2⟩
              case measure => simp [intOf]; omega
    · have hil' : i = S.length - 1 := by omega
      have HT' : Hid (Tl S f (S.length - 1) out) := by rw [← hil']; exact HT
      have HIE : Hid (I (S.take (S.length - 1)) wr) := by rw [← hil']; exact HII
      have R := ownsRow_base hown hb1.size
      have HR : Hid (wr.ownsRow w.heap.size 36 3 u5 out.length (enc3 out)) := R
      clear hown hil' hzS R
      have hi1 : ¬ ((i : Int) + 1 < (S.length : Int)) := by omega
      go_wp2
      go_ret
      exact ⟨_, rfl, S, HO.out, out, HT'.out, HR.out, hgw, HIE.out⟩

end Go.Proofs.YtjlnokjaabcldabDoor
