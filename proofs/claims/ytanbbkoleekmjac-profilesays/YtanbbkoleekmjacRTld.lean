/-
  What Told of the reference answers: the map of what is told at the times of a list.
-/
import Derived.Test.YtanbbkoleekmjacRBnd
import Derived.Test.YtanbbkoleekmjacPExt
import Derived.Test.YtanbbkoleekmjacPBld
import Derived.Shelf.Abstract
namespace Go.Proofs.Ytanbbkoleekmjac
open Go.RowKit

/-- what the rest of a round needs to know of the world -/
structure Fx3 (w1 wq : World) (T b off i : Nat) (S : List Int) (v : Value) (out : List (Int × Int × Int)) : Prop where
  c0 : ∀ h : i < S.length, wq.cell? ⟨b, off + i, none⟩ = some (.int .i64 S[i])
  c1 : ∀ h : i + 1 < S.length, wq.cell? ⟨b, off + (i + 1), none⟩ = some (.int .i64 S[i + 1])
  own : wq.ownsRow w1.heap.size T 3 v out.length (enc3 out)
  bel : Below w1.heap.size w1 wq
  ne : some b ≠ v.ownBlock
  lt : b < wq.heap.size

set_option maxRecDepth 100000 in
set_option maxHeartbeats 4000000 in
theorem told_in (g : Nat) (caps : Array Value) (f : Int → Option Int) (eg : ∀ args w, (callFunc g args).run Try.prog w = .ok (.enter g args) w) (w : World) (A : List Int)
    (hp : ∀ t, t ∈ A → (∃ u ∈ A, t < u) → ∀ wq, Below w.heap.size w wq → Calls Try.prog g (#[.int .i64 t] ++ caps) wq fun e w' => (∃ x, e = .returned (.tuple #[.int .i64 x, .bool (f t).isSome]) ∧ ∀ y, f t = some y → x = y) ∧ Below wq.heap.size wq w')
    (ao : Option Addr) (n ca : Nat) (h8 : A.length ≤ 800)
    (hbd : Calls Try.prog 74 #[.slice ao n ca] w fun e w' => ∃ ao' cap' S, e = .returned (.slice ao' S.length cap') ∧ Ordered A S ∧ ZsAt w' ao' S ∧ Below w.heap.size w w') :
    Calls Try.prog 52 #[.slice ao n ca, .func (.func g) #[] caps] w fun e w' => ∃ v S out, e = .returned v ∧ Ordered A S ∧ Tl S f (S.length - 1) out ∧ w'.ownsRow w.heap.size 63 3 v out.length (enc3 out) ∧ Below w.heap.size w w' := by
  obtain ⟨i0, hi, hz0, hz1, hz2⟩ := info_parts Try.infoPiece
  have HP : Hid (∀ t, t ∈ A → (∃ u ∈ A, t < u) → ∀ wq, Below w.heap.size w wq → Calls Try.prog g (#[.int .i64 t] ++ caps) wq fun e w' => (∃ x, e = .returned (.tuple #[.int .i64 x, .bool (f t).isSome]) ∧ ∀ y, f t = some y → x = y) ∧ Below wq.heap.size wq w') := hp
  clear hp
  go_enter Try.func52, Try.ntmps52
  go_wp2_with fail
  refine hbd.mono ?_
  rintro e w1 ⟨so, sc, S, rfl, hO, hzS, hb1⟩
  have HO : Hid (Ordered A S) := hO
  have hSl : S.length ≤ 800 := Nat.le_trans hO.len h8
  clear hO hbd
  go_wp2_with fail
  go_loopw [5, 6, 7, 8, 9] (fun v vi _ _ _ wr => ∃ (i : Nat) (out : List (Int × Int × Int)), vi = .int .i64 i ∧ (i = 0 ∨ i + 1 ≤ S.length) ∧ Tl S f i out ∧ wr.ownsRow w1.heap.size 63 3 v out.length (enc3 out) ∧ Below w1.heap.size w1 wr) (fun _ vi _ _ _ _ => S.length + 1 - (intOf vi).toNat)
  case atStart => exact ⟨0, [], rfl, .inl rfl, tl_start S f, World.ownsRow_nil _ _ _ _, Below.refl _ _⟩
  case round =>
    obtain ⟨i, out, rfl, hil, hT, hown, hb⟩ := hrel
    have HT : Hid (Tl S f i out) := hT
    have hol := hT.len
    have hi8 : i ≤ 800 := by omega
    clear hT
    by_cases hlt : i + 1 < S.length
    · rcases hzS with h0 | ⟨b, off, rfl, hbw, hc⟩
      · subst h0; simp at hlt
      have c0 : wr.cell? ⟨b, off + i, none⟩ = some (.int .i64 S[i]) := by
        rw [hb.cell (p := ⟨b, off + i, none⟩) hbw, hc i (by omega), List.getD_eq_getElem?_getD, List.getElem?_eq_getElem (by omega)]; rfl
      have hsz := hb.size
      have hi1 : (i : Int) + 1 < (S.length : Int) := by omega
      have hi2 : (i : Int) < (S.length : Int) := by omega
      have hi3 : (0 : Int) ≤ (i : Int) := by omega
      have hcl := HP.out S[i] ((HO.out.mem _).1 (List.getElem_mem _)) ⟨S[i + 1], (HO.out.mem _).1 (List.getElem_mem hlt), List.pairwise_iff_getElem.1 HO.out.inc i (i + 1) (by omega) hlt (by omega)⟩ wr (hb1.trans (hb.mono hb1.size))
      have HF : Hid (∀ w2, Below wr.heap.size wr w2 → ∀ n, Fx3 w1 (w2.drewN n) 63 b off i S u5 out) := by
        intro w2 h2 n
        have hbb : Below w1.heap.size w1 w2 := hb.trans (h2.mono hb.size)
        refine ⟨fun h => ?_, fun h => ?_, ownsRow_below hown (below_drewN h2 n), below_drewN hbb n, fun h => by have := (hown.lt b h.symm).1; omega, Nat.lt_of_lt_of_le hbw hbb.size⟩
        · show w2.cell? _ = _
          rw [hbb.cell (p := ⟨b, off + i, none⟩) hbw, hc i (by omega), List.getD_eq_getElem?_getD, List.getElem?_eq_getElem h]; rfl
        · show w2.cell? _ = _
          rw [hbb.cell (p := ⟨b, off + (i + 1), none⟩) hbw, hc (i + 1) (by omega), List.getD_eq_getElem?_getD, List.getElem?_eq_getElem h]; rfl
      obtain ⟨vo, vc, hve, _⟩ := pcAt_of_owns hown
      have hce : some b ≠ u5.ownBlock := fun h => by have := (hown.lt b h.symm).1; omega
      clear hc hown
      cases hpi : f S[i] with
      | none =>
        rw [hpi] at hcl
        simp only [Option.isSome_none] at hcl
        have HT' : Hid (Tl S f (i + 1) out) := tl_skip hlt HT.out hpi
        clear hpi hve hce
        go_wp2_with (go_at_fn g; refine hcl.mono ?_; rintro e w2 ⟨⟨x, rfl, _⟩, hb2⟩)
        have F := HF.out w2 hb2 0
        go_roundw
        case rel => exact ⟨i + 1, out, by go_num, .inr (by omega), HT'.out, F.own, F.bel⟩
        case measure => simp [intOf]; omega
      | some y =>
        rw [hpi] at hcl
        simp only [Option.isSome_some] at hcl
        have hcl' := hcl.mono (fun e w' (h : (∃ x, e = .returned (.tuple #[.int .i64 x, .bool true]) ∧ ∀ y', some y = some y' → x = y') ∧ Below wr.heap.size wr w') => (show e = .returned (.tuple #[.int .i64 y, .bool true]) ∧ Below wr.heap.size wr w' from by obtain ⟨⟨x, he, hx⟩, hb'⟩ := h; rw [hx y rfl] at he; exact ⟨he, hb'⟩))
        have HTE : Hid (Tl S f (i + 1) (ext out (S[i], S[i + 1], y))) := tl_ext hlt HO.out.inc HT.out hpi
        clear hpi hcl
        rcases List.eq_nil_or_concat out with h0 | ⟨o, q, h0⟩
        · subst h0
          subst hve
          have HT' : Hid (Tl S f (i + 1) ([] ++ [(S[i], S[i + 1], y)])) := HTE.out
          go_wp2_with (go_at_fn g; refine hcl'.mono ?_; rintro e w2 ⟨rfl, hb2⟩)
          go_quiet (fail)
          go_wp2
          have F := HF.out w2 hb2 nq
          generalize w2.drewN nq = wq at F ⊢
          clear hb2 c0 hcl'
          obtain ⟨d0, d1, hownq, hbq, hne, hbr⟩ := F
          have d0 := d0 (by omega)
          have d1 := d1 hlt
          simp only [List.length_nil] at hownq hne
          have hsq := hbq.size
          have hi4 : (0 : Int) ≤ (i : Int) + 1 := by omega
          have hw1 : IntKind.i64.wrap ((i : Int) + 1) = (i : Int) + 1 := wrap_small _ (by omega) (by omega)
          have HB : Hid (∀ (o : Obj) (w3 : World), ((wq.alloc o).drew).grownBy w3 (Value.slice vo 0 vc).ownBlock → Below w1.heap.size w1 w3) := fun o w3 hgr => ((hbq.alloc hsq o).drew).grown hgr (by simp; omega) (fun j hj => (hownq.lt j hj).1)
          go_region_held3 (fun w' => w'.cell? ⟨b, off + i, none⟩ = some (.int .i64 S[i]) ∧ w'.cell? ⟨b, off + (i + 1), none⟩ = some (.int .i64 S[i + 1]))
            (first
              | go_keep
              | (go_split_ands
                 refine ⟨?_, ?_⟩
                 · (rw [hgrow.cell_far _ (by simp; omega) hne]; assumption)
                 · (rw [hgrow.cell_far _ (by simp; omega) hne]; assumption)))
            ((refine step_append_lies _ (by rfl) _ _ _ (by rfl) w1.heap.size 63 i0 _ 3 24 Try.underlying53 hi hz0 hz1 hz2 rfl (by omega) (.slice vo 0 vc) 0 (enc3 []) (by rfl) ((hownq.alloc _).drew) ⟨wq.heap.size, 0, none⟩ 1 1 [.int .i64 S[i], .int .i64 S[i + 1], .int .i64 y] (by rfl) (by rfl) (World.news_of_block (cs := #[.int .i64 S[i], .int .i64 S[i + 1], .int .i64 y]) (t := 63) (fr := (0, 0)) (heap_alloc_new wq _)) (by simp [Value.oneCell']) (by omega) (by unfold maxLen; omega) (by omega) (by simp; omega) (wq.heap.size + 1) (by simp) ?_; intro gg cap1 w3 hown1 hgrow hat hltg))
          have hb' := HB.out _ _ hgrow
          have R : w3.ownsRow w1.heap.size 63 3 (.slice (some ⟨gg, 0, none⟩) (0 + 1) cap1) ([] ++ [(S[i], S[i + 1], y)]).length (enc3 ([] ++ [(S[i], S[i + 1], y)])) := hown1
          clear hgrow hownq hat hltg hne hown1
          go_wp2
          go_roundw
          case rel => exact ⟨i + 1, _, by go_num, .inr (by omega), HT'.out, R, hb'⟩
          case measure => simp [intOf]; omega
        · rw [List.concat_eq_append] at h0
          have hom : out.length = o.length + 1 := by rw [h0]; simp
          have HOQ : Hid (out = o ++ [q]) := h0
          have fp := flat3_getD out o.length (by omega)
          have hgp : out.getD o.length (0, 0, 0) = q := by rw [h0]; simp
          rw [hgp] at fp
          have HFP : Hid ((flat3 out)[o.length * 3]? = some q.1 ∧ (flat3 out)[o.length * 3 + 1]? = some q.2.1 ∧ (flat3 out)[o.length * 3 + 2]? = some q.2.2) := fp
          have hle : q.2.1 ≤ S[i] := tl_last_le hlt HO.out.inc HT.out (by rw [h0]; simp)
          have HOM : Hid (out.length = o.length + 1) := hom
          rw [hom] at hve hol
          subst hve
          clear h0 hgp fp hom
          generalize hm : o.length = m at *
          have HM : Hid (o.length = m) := hm
          clear hm
          have hvs : ∀ w2, Below wr.heap.size wr w2 → ∃ gb, vo = some ⟨gb, 0, none⟩ ∧ ∀ n, ((w2.drewN n).cell? ⟨gb, m * 3 + 1, none⟩ = some (.int .i64 q.2.1) ∧ (w2.drewN n).cell? ⟨gb, m * 3 + 2, none⟩ = some (.int .i64 q.2.2)) ∧ (w2.drewN n).frozen? ⟨gb, m * 3 + 1, none⟩ = false ∧ w1.heap.size ≤ gb ∧ gb < w2.heap.size := by
            intro w2 h2
            have F := HF.out w2 h2 0
            have hq := F.own
            rw [HOM.out] at hq
            rcases hq.2 with ⟨_, h9⟩ | ⟨gb, c9, cur, e9, _⟩
            · omega
            · simp only [Value.slice.injEq, true_and] at e9
              obtain ⟨rfl, rfl⟩ := e9
              refine ⟨gb, rfl, fun n => ⟨⟨?_, ?_⟩, hq.frozenAt _, (hq.lt gb rfl).1, (hq.lt gb rfl).2⟩⟩
              · show (w2.drewN 0).cell? _ = _
                rw [hq.cellAt (m * 3 + 1) (by omega)]
                simp [enc3, HFP.out.2.1]
              · show (w2.drewN 0).cell? _ = _
                rw [hq.cellAt (m * 3 + 2) (by omega)]
                simp [enc3, HFP.out.2.2]
          have HVS : Hid (∀ w2, Below wr.heap.size wr w2 → ∃ gb, vo = some ⟨gb, 0, none⟩ ∧ ∀ n, ((w2.drewN n).cell? ⟨gb, m * 3 + 1, none⟩ = some (.int .i64 q.2.1) ∧ (w2.drewN n).cell? ⟨gb, m * 3 + 2, none⟩ = some (.int .i64 q.2.2)) ∧ (w2.drewN n).frozen? ⟨gb, m * 3 + 1, none⟩ = false ∧ w1.heap.size ≤ gb ∧ gb < w2.heap.size) := hvs
          obtain ⟨gb, rfl, _⟩ := hvs wr (Below.refl _ _)
          clear hvs
          have dm0 : (0 : Int) < (m : Int) + 1 := by omega
          have dm1 : (0 : Int) ≤ (m : Int) := by omega
          have dm2 : (m : Int) < (m : Int) + 1 := by omega
          go_wp2_with (go_at_fn g; refine hcl'.mono ?_; rintro e w2 ⟨rfl, hb2⟩)
          have F := HF.out w2 hb2
          obtain ⟨gb', e', hcm⟩ := HVS.out w2 hb2
          simp only [Option.some.injEq, Addr.mk.injEq, and_true] at e'
          subst e'
          have cm := (hcm 0).1.1
          have cv := (hcm 0).1.2
          have hgb := (hcm 0).2.2
          have c02 := (F 0).c0 (by omega)
          have hb2' : b < w2.heap.size := (F 0).lt
          have HCM : Hid (∀ n, ((w2.drewN n).cell? ⟨gb, m * 3 + 1, none⟩ = some (.int .i64 q.2.1) ∧ (w2.drewN n).cell? ⟨gb, m * 3 + 2, none⟩ = some (.int .i64 q.2.2)) ∧ (w2.drewN n).frozen? ⟨gb, m * 3 + 1, none⟩ = false ∧ w1.heap.size ≤ gb ∧ gb < w2.heap.size) := hcm
          have HFF : Hid (∀ n, Fx3 w1 (w2.drewN n) 63 b off i S (.slice (some ⟨gb, 0, none⟩) (m + 1) vc) out) := F
          clear hcm F c0 hcl'
          change w2.cell? _ = _ at cm cv c02
          by_cases g1 : q.2.1 = S[i] ∧ q.2.2 = y
          · have hfo : folB q (S[i], S[i + 1], y) = false := by rw [← Bool.not_eq_true, folB_iff]; unfold Fol; simp only; omega
            have HT' : Hid (Tl S f (i + 1) (o ++ [(q.1, S[i + 1], q.2.2)])) := by have := HTE.out; rw [HOQ.out, ext_no hfo] at this; exact this
            have e1 : (q.2.1 == S[i]) = true := by simp [g1.1]
            have e2 : (q.2.2 == y) = true := by simp [g1.2]
            have c12 := (HFF.out 0).c1 hlt
            have fz := (HCM.out 0).2.1
            change w2.cell? _ = _ at c12
            change w2.frozen? _ = _ at fz
            have hi4 : (0 : Int) ≤ (i : Int) + 1 := by omega
            have HST : Hid (∀ n, ((w2.drewN n).setCell ⟨gb, m * 3 + 1, none⟩ (.int .i64 S[i + 1])).ownsRow w1.heap.size 63 3 (.slice (some ⟨gb, 0, none⟩) (m + 1) vc) (o ++ [(q.1, S[i + 1], q.2.2)]).length (enc3 (o ++ [(q.1, S[i + 1], q.2.2)])) ∧ Below w1.heap.size w1 ((w2.drewN n).setCell ⟨gb, m * 3 + 1, none⟩ (.int .i64 S[i + 1]))) := by
              intro n
              have hq := (HFF.out n).own
              rw [HOM.out] at hq
              have hst := (hq.stored (m * 3 + 1) (.int .i64 S[i + 1])).1
              have he : (enc3 out).set (m * 3 + 1) (.int .i64 S[i + 1]) = enc3 (o ++ [(q.1, S[i + 1], q.2.2)]) := by
                rw [HOQ.out, enc3_append, enc3_append, List.set_append_right _ _ (by rw [enc3_length, HM.out]; omega), enc3_length, HM.out, show m * 3 + 1 - m * 3 = 1 by omega]
                rfl
              rw [he] at hst
              have hlen : (o ++ [(q.1, S[i + 1], q.2.2)]).length = m + 1 := by simp [HM.out]
              rw [hlen]
              exact ⟨hst, (HFF.out n).bel.setCell hgb.1 _⟩
            clear g1 hfo hle
            go_quiet (fail)
            go_wp2
            go_roundw
            case rel => exact ⟨i + 1, _, by go_num, .inr (by omega), HT'.out, (HST.out _).1, (HST.out _).2⟩
            case measure => simp [intOf]; omega
          · have hfo : folB q (S[i], S[i + 1], y) = true := by rw [folB_iff]; unfold Fol; simp only; omega
            have HT' : Hid (Tl S f (i + 1) (out ++ [(S[i], S[i + 1], y)])) := by have := HTE.out; rw [HOQ.out, ext_yes hfo] at this; rw [HOQ.out]; exact this
            have hor : (q.2.1 == S[i]) = false ∨ ((q.2.1 == S[i]) = true ∧ (q.2.2 == y) = false) := by
              by_cases h : q.2.1 = S[i]
              · exact .inr ⟨by simp [h], by simp; exact fun h' => g1 ⟨h, h'⟩⟩
              · exact .inl (by simp [h])
            clear g1 hfo hle
            rcases hor with e1 | ⟨e1, e2⟩
            all_goals
              go_quiet (fail)
              go_wp2
              have F := HFF.out nq
              generalize w2.drewN nq = wq at F ⊢
              clear cm cv c02
              obtain ⟨d0, d1, hownq, hbq, hne, hbr⟩ := F
              have d0 := d0 (by omega)
              have d1 := d1 hlt
              rw [HOM.out] at hownq
              have hsq := hbq.size
              have hi4 : (0 : Int) ≤ (i : Int) + 1 := by omega
              have hw1 : IntKind.i64.wrap ((i : Int) + 1) = (i : Int) + 1 := wrap_small _ (by omega) (by omega)
              have HB : Hid (∀ (o : Obj) (w3 : World), ((wq.alloc o).drew).grownBy w3 (Value.slice (some ⟨gb, 0, none⟩) (m + 1) vc).ownBlock → Below w1.heap.size w1 w3) := fun o w3 hgr => ((hbq.alloc hsq o).drew).grown hgr (by simp; omega) (fun j hj => (hownq.lt j hj).1)
              go_region_held3 (fun w' => w'.cell? ⟨b, off + i, none⟩ = some (.int .i64 S[i]) ∧ w'.cell? ⟨b, off + (i + 1), none⟩ = some (.int .i64 S[i + 1]))
                (first
                  | go_keep
                  | (go_split_ands
                     refine ⟨?_, ?_⟩
                     · (rw [hgrow.cell_far _ (by simp; omega) hne]; assumption)
                     · (rw [hgrow.cell_far _ (by simp; omega) hne]; assumption)))
                ((refine step_append_lies _ (by rfl) _ _ _ (by rfl) w1.heap.size 63 i0 _ 3 24 Try.underlying53 hi hz0 hz1 hz2 rfl (by omega) (.slice (some ⟨gb, 0, none⟩) (m + 1) vc) (m + 1) (enc3 out) (by rfl) ((hownq.alloc _).drew) ⟨wq.heap.size, 0, none⟩ 1 1 [.int .i64 S[i], .int .i64 S[i + 1], .int .i64 y] (by rfl) (by rfl) (World.news_of_block (cs := #[.int .i64 S[i], .int .i64 S[i + 1], .int .i64 y]) (t := 63) (fr := (0, 0)) (heap_alloc_new wq _)) (by simp [Value.oneCell']) (by omega) (by unfold maxLen; omega) (by omega) (by simp; omega) (wq.heap.size + 1) (by simp) ?_; intro gg cap1 w3 hown1 hgrow hat hltg))
              have hb' := HB.out _ _ hgrow
              have R : w3.ownsRow w1.heap.size 63 3 (.slice (some ⟨gg, 0, none⟩) (m + 1 + 1) cap1) (out ++ [(S[i], S[i + 1], y)]).length (enc3 (out ++ [(S[i], S[i + 1], y)])) := by
                rw [enc3_append, List.length_append, HOM.out]; exact hown1
              clear hgrow hownq hat hltg hne hown1
              go_wp2
              go_roundw
              case rel => exact ⟨i + 1, _, by go_num, .inr (by omega), HT'.out, R, hb'⟩
              case measure => simp [intOf]; omega
    · have hil' : i = S.length - 1 := by omega
      have HT' : Hid (Tl S f (S.length - 1) out) := by rw [← hil']; exact HT
      have hbb : Below w.heap.size w wr := hb1.trans (hb.mono hb1.size)
      have R := ownsRow_base hown hb1.size
      have HR : Hid (wr.ownsRow w.heap.size 63 3 u5 out.length (enc3 out)) := R
      clear hown hil' hzS R
      have hi1 : ¬ ((i : Int) + 1 < (S.length : Int)) := by omega
      go_wp2
      go_ret
      exact ⟨_, rfl, S, HO.out, out, HT'.out, HR.out, hbb⟩

theorem told_core (g : Nat) (caps : Array Value) (f : Int → Option Int) (eg : ∀ args w, (callFunc g args).run Try.prog w = .ok (.enter g args) w) (w : World)
    (hp : ∀ t wq, Below w.heap.size w wq → Calls Try.prog g (#[.int .i64 t] ++ caps) wq fun e w' => (∃ x, e = .returned (.tuple #[.int .i64 x, .bool (f t).isSome]) ∧ ∀ y, f t = some y → x = y) ∧ Below wq.heap.size wq w')
    (ao : Option Addr) (n ca : Nat) (A : List Int) (h8 : A.length ≤ 800)
    (hbd : Calls Try.prog 74 #[.slice ao n ca] w fun e w' => ∃ ao' cap' S, e = .returned (.slice ao' S.length cap') ∧ Ordered A S ∧ ZsAt w' ao' S ∧ Below w.heap.size w w') :
    Calls Try.prog 52 #[.slice ao n ca, .func (.func g) #[] caps] w fun e w' => ∃ v S out, e = .returned v ∧ Ordered A S ∧ Tl S f (S.length - 1) out ∧ w'.ownsRow w.heap.size 63 3 v out.length (enc3 out) ∧ Below w.heap.size w w' :=
  told_in g caps f eg w A (fun t _ _ => hp t) ao n ca h8 hbd

end Go.Proofs.Ytanbbkoleekmjac
