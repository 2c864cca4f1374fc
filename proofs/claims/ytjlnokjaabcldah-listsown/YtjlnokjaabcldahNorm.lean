/-
  What rising, join and Norm of the program answer.
-/
import Derived.Test.YtjlnokjaabcldahChk
import Derived.Test.YtjlnokjaabcldahSortIv
import Derived.Test.YtjlnokjaabcldahJoin
namespace Go.Proofs.Ytjlnokjaabcldah
open Go.RowKit

theorem encs_append (a b : List (Int × Int)) : encs (a ++ b) = encs a ++ encs b := by unfold encs; rw [flat_append, List.map_append]
theorem encs_one (p : Int × Int) : encs [p] = [.int .i64 p.1, .int .i64 p.2] := rfl
theorem encs_length (l : List (Int × Int)) : (encs l).length = l.length * 2 := by unfold encs; rw [List.length_map, flat_length]; omega

set_option maxRecDepth 100000 in
set_option maxHeartbeats 2000000 in
theorem rising_any (ao : Option Addr) (cap : Nat) (l : List (Int × Int)) (w : World) (hl : IvAt w ao l) (h3 : l.length ≤ 200) :
    Calls Try.prog 31 #[.slice ao l.length cap] w fun e w' => ∃ ao' cap' r, e = .returned (.slice ao' r.length cap') ∧ r.Perm (filt l) ∧ r.Pairwise (fun x y => x.1 ≤ y.1) ∧ IvAt w' ao' r ∧ Below w.heap.size w w' := by
  obtain ⟨i0, hi, hz0, hz1, hz2⟩ := info_parts Try.infoIvl
  go_enter Try.func31, Try.ntmps31
  go_wp2
  go_loopw [3, 8] (fun v i wr => ∃ k : Nat, k ≤ l.length ∧ i = .int .i64 k ∧ wr.ownsRow w.heap.size 29 2 v (filt (l.take k)).length (encs (filt (l.take k))) ∧ Below w.heap.size w wr) (fun _ i _ => l.length - (intOf i).toNat)
  case atStart => exact ⟨0, Nat.zero_le _, rfl, World.ownsRow_nil _ _ _ _, Below.refl _ _⟩
  case round =>
    obtain ⟨k, hk, rfl, hown, hb⟩ := hrel
    by_cases hlt : k < l.length
    · rcases hl.below hb with h0 | ⟨b, off, rfl, hbw, hc⟩
      · subst h0; simp at hlt
      obtain ⟨c0, c1⟩ := hc k hlt
      clear hc hl
      have hsz := hb.size
      have hfl := filt_length (l.take k)
      have hfl2 : (filt (l.take k)).length ≤ 200 := by rw [List.length_take] at hfl; omega
      clear hfl
      generalize hF : filt (l.take k) = F at *
      have HF : Hid (filt (l.take k) = F) := hF
      clear hF
      by_cases g1 : l[k].1 < l[k].2
      · have HY : Hid (filt (l.take (k + 1)) = F ++ [l[k]]) := by show _ = _; rw [filt_yes hlt g1, HF.out]
        go_wp2_with (at_builtin; refine wpList_append_own _ rfl _ _ 22 rfl w.heap.size 29 i0 (.agg #[.int .i64 0, .int .i64 0]) 2 16 Try.underlying22 hi hz0 hz1 hz2 rfl (by decide) _ _ _ rfl ((hown.alloc _).alloc _) ⟨wr.heap.size + 1, 0, none⟩ 1 1 [.int .i64 l[k].1, .int .i64 l[k].2] rfl rfl ?c1 ?c2 ?c3 ?c4 ?c5 ?_)
        case c1 => exact cells_two_new _ _ _ _ _ (by simp)
        case c2 => intro u hu; simp at hu; rcases hu with rfl | rfl <;> rfl
        case c3 => unfold maxLen; omega
        case c4 => omega
        case c5 => simp; omega
        intro v' w1 hown' hgrow _
        have R : w1.ownsRow w.heap.size 29 2 v' (filt (l.take (k + 1))).length (encs (filt (l.take (k + 1)))) := by
          rw [HY.out, encs_append, List.length_append]; exact hown'
        have hb' : Below w.heap.size w w1 := ((hb.alloc hsz _).alloc (by simp; omega) _).grown hgrow (by simp; omega) (fun j hj => (hown.lt j hj).1)
        clear hown hown' hgrow
        go_wp2
        go_roundw
        case rel => exact ⟨k + 1, by omega, by go_num, R, hb'⟩
        case measure => simp [intOf]; omega
      · have HY : Hid (filt (l.take (k + 1)) = F) := by show _ = _; rw [filt_no hlt g1, HF.out]
        have R : ∀ o, (wr.alloc o).ownsRow w.heap.size 29 2 u3 (filt (l.take (k + 1))).length (encs (filt (l.take (k + 1)))) := fun o => by rw [HY.out]; exact hown.alloc o
        have hb' : ∀ o, Below w.heap.size w (wr.alloc o) := fun o => hb.alloc hsz o
        clear hown
        go_wp2
        go_roundw
        case rel => exact ⟨k + 1, by omega, by go_num, R _, hb' _⟩
        case measure => simp [intOf]; omega
    · have hkl : k = l.length := by omega
      subst hkl
      rw [List.take_length] at hown
      have hfl := filt_length l
      rcases hown.2 with ⟨rfl, h0⟩ | ⟨g, vc, cur, rfl, hbase, hh, h1, h2, h4, h5⟩
      · have hnil : filt l = [] := List.eq_nil_of_length_eq_zero h0
        have HN : Hid (filt l = []) := hnil
        have hcon := fun w => AnyF.slices_SortFunc_none Try.sortIv none 0 (.func (.func 51) #[] #[]) w
        change ∀ w, Calls Try.prog 50 _ _ _ at hcon
        clear hown hnil h0 hl
        go_wp2_with (go_at_call 50; refine (hcon _).mono ?_; rintro e w' ⟨rfl, rfl⟩)
        go_ret
        exact ⟨_, _, [], rfl, by rw [HN.out], List.Pairwise.nil, .inl rfl, by assumption⟩
      · have hcon := sortIv_any (base := w.heap.size) hown (by omega) hb.size
        clear hown hh h5 hl
        go_wp2_with fail
        refine hcon.mono ?_
        rintro e w' ⟨rfl, r, hp, hs, hz, hb'⟩
        have hle := hp.length_eq
        have HP : Hid (r.Perm (filt l)) := hp
        have HL : Hid ((filt l).length = r.length) := hle.symm
        clear hp hle hcon
        go_wp2
        go_ret
        exact ⟨_, _, r, ret_slice HL.out rfl, HP.out, hs, hz, hb.trans hb'⟩

set_option maxRecDepth 100000 in
set_option maxHeartbeats 4000000 in
theorem join_own (ao : Option Addr) (cap : Nat) (r : List (Int × Int)) (w : World) (hl : IvAt w ao r) (h3 : r.length ≤ 200) (hs : r.Pairwise (fun x y => x.1 ≤ y.1)) (hf : ∀ p ∈ r, p.1 < p.2) (hn : ∀ p ∈ r, nearB p.1 ∧ nearB p.2) :
    Calls Try.prog 30 #[.slice ao r.length cap] w fun e w' => ∃ v out, e = .returned v ∧ Jn r r.length out ∧ w'.ownsRow w.heap.size 29 2 v out.length (encs out) ∧ Below w.heap.size w w' := by
  obtain ⟨i0, hi, hz0, hz1, hz2⟩ := info_parts Try.infoIvl
  have HS : Hid (r.Pairwise (fun x y => x.1 ≤ y.1)) := hs
  have HF : Hid (∀ p ∈ r, p.1 < p.2) := hf
  have HN : Hid (∀ p ∈ r, nearB p.1 ∧ nearB p.2) := hn
  clear hs hf hn
  go_enter Try.func30, Try.ntmps30
  go_wp2
  go_loopw [3, 9] (fun v i wr => ∃ (k : Nat) (out : List (Int × Int)), k ≤ r.length ∧ i = .int .i64 k ∧ Jn r k out ∧ wr.ownsRow w.heap.size 29 2 v out.length (encs out) ∧ Below w.heap.size w wr) (fun _ i _ => r.length - (intOf i).toNat)
  case atStart => exact ⟨0, [], Nat.zero_le _, rfl, jn_start r, World.ownsRow_nil _ _ _ _, Below.refl _ _⟩
  case round =>
    obtain ⟨k, out, hk, rfl, hJ, hown, hb⟩ := hrel
    have HJ : Hid (Jn r k out) := hJ
    have hol := hJ.len
    clear hJ
    by_cases hlt : k < r.length
    · rcases hl.below hb with h0 | ⟨b, off, rfl, hbw, hc⟩
      · subst h0; simp at hlt
      obtain ⟨c0, c1⟩ := hc k hlt
      clear hc hl
      have hsz := hb.size
      have hfk := HF.out r[k] (List.getElem_mem hlt)
      have HNk : Hid (nearB r[k].1 ∧ nearB r[k].2) := HN.out r[k] (List.getElem_mem hlt)
      have bdk := HNk.out
      unfold nearB at bdk
      obtain ⟨vo, vc, e, hz⟩ := ivAt_of_owns hown
      rcases List.eq_nil_or_concat out with h0 | ⟨o, p, h0⟩
      · subst h0
        subst e
        have HJ' : Hid (Jn r (k + 1) ([] ++ [r[k]])) := jn_put hlt HJ.out HS.out hfk HNk.out (fun p h => by simp at h)
        clear hz
        simp only [List.length_nil] at hown
        go_wp2
        go_quiet (fail)
        go_wp2_with (at_builtin; refine wpList_append_own _ rfl _ _ 22 rfl w.heap.size 29 i0 (.agg #[.int .i64 0, .int .i64 0]) 2 16 Try.underlying22 hi hz0 hz1 hz2 rfl (by decide) _ _ _ rfl (World.ownsRow.alloc (World.ownsRow.alloc (w := wr) hown _) _) ⟨wr.heap.size + 1, 0, none⟩ 1 1 [.int .i64 r[k].1, .int .i64 r[k].2] rfl rfl ?c1 ?c2 ?c3 ?c4 ?c5 ?_)
        case c1 => exact cells_two_new _ _ _ _ _ (by simp)
        case c2 => intro u hu; simp at hu; rcases hu with rfl | rfl <;> rfl
        case c3 => unfold maxLen; omega
        case c4 => omega
        case c5 => simp; omega
        intro v' w1 hown' hgrow _
        have R : w1.ownsRow w.heap.size 29 2 v' ([] ++ [r[k]]).length (encs ([] ++ [r[k]])) := by
          rw [encs_append, List.length_append]; exact hown'
        have hb' : Below w.heap.size w w1 := ((below_drewN (hb.alloc hsz _) _).alloc (by simp; omega) _).grown hgrow (by simp; omega) (fun j hj => (hown.lt j hj).1)
        clear hown hown' hgrow
        go_wp2
        go_roundw
        case rel => exact ⟨k + 1, _, by omega, by go_num, HJ'.out, R, hb'⟩
        case measure => simp [intOf]; omega
      · rw [List.concat_eq_append] at h0
        have hom : out.length = o.length + 1 := by rw [h0]; simp
        have HO : Hid (out = o ++ [p]) := h0
        have gp : out.getLast? = some p := by rw [h0]; simp
        have fp := flat_getD out o.length (by omega)
        have hgp : out.getD o.length (0, 0) = p := by rw [h0]; simp
        rw [hgp] at fp
        rcases hown.2 with ⟨_, h9⟩ | ⟨g, vc', cur, rfl, hbase, hh, h1, h2, h4, h5⟩
        · omega
        have cp : wr.cell? ⟨g, o.length * 2 + 1, none⟩ = some (.int .i64 p.2) := by
          rw [hown.cellAt (o.length * 2 + 1) (by omega)]; simp [encs, fp.2]
        have fz := hown.frozenAt (o.length * 2 + 1)
        have hgl := (hown.lt g rfl)
        have bp : nearB p.2 := HJ.out.near p.2 (List.mem_of_getElem? fp.2)
        unfold nearB at bp
        have hpp : Hid (out.getLast? = some p) := gp
        have HOM : Hid (out.length = o.length + 1) := hom
        clear h0 e hz gp hgp fp hh h4 h5
        rw [hom] at hown h1 ⊢ hol
        clear hom
        generalize hm : o.length = m at *
        have HM : Hid (o.length = m) := hm
        clear hm
        have dm : decide ((m : Int) < 0) = false := by simp
        have dm1 : (0 : Int) ≤ (m : Int) := by omega
        have dm2 : (m : Int) < (m : Int) + 1 := by omega
        by_cases g1 : p.2 < r[k].1
        · have HJ' : Hid (Jn r (k + 1) (out ++ [r[k]])) := jn_put hlt HJ.out HS.out hfk HNk.out (fun q h => by rw [hpp.out] at h; cases h; exact g1)
          have d1 : decide (p.2 < r[k].1) = true := by simpa using g1
          go_wp2
          go_quiet (fail)
          go_wp2_with (at_builtin; refine wpList_append_own _ rfl _ _ 22 rfl w.heap.size 29 i0 (.agg #[.int .i64 0, .int .i64 0]) 2 16 Try.underlying22 hi hz0 hz1 hz2 rfl (by decide) _ _ _ rfl (World.ownsRow.alloc (World.ownsRow.alloc (w := wr) hown _) _) ⟨wr.heap.size + 1, 0, none⟩ 1 1 [.int .i64 r[k].1, .int .i64 r[k].2] rfl rfl ?c1b ?c2b ?c3b ?c4b ?c5b ?_)
          case c1b => exact cells_two_new _ _ _ _ _ (by simp)
          case c2b => intro u hu; simp at hu; rcases hu with rfl | rfl <;> rfl
          case c3b => unfold maxLen; omega
          case c4b => omega
          case c5b => simp; omega
          intro v' w1 hown' hgrow _
          have R : w1.ownsRow w.heap.size 29 2 v' (out ++ [r[k]]).length (encs (out ++ [r[k]])) := by
            rw [encs_append, List.length_append, HOM.out]; exact hown'
          have hb' : Below w.heap.size w w1 := ((below_drewN (hb.alloc hsz _) _).alloc (by simp; omega) _).grown hgrow (by simp; omega) (fun j hj => (hown.lt j hj).1)
          clear hown hown' hgrow
          go_wp2
          go_roundw
          case rel => exact ⟨k + 1, _, by omega, by go_num, HJ'.out, R, hb'⟩
          case measure => simp [intOf]; omega
        · have HJ' : Hid (Jn r (k + 1) (o ++ [(p.1, max p.2 r[k].2)])) := jn_more hlt (by rw [← HO.out]; exact HJ.out) hfk HNk.out (by omega)
          have d1 : decide (p.2 < r[k].1) = false := by simpa using g1
          have HR : Hid (∀ (o' : Obj) (n : Nat), (((wr.alloc o').drewN n).setCell ⟨g, m * 2 + 1, none⟩ (.int .i64 (max p.2 r[k].2))).ownsRow w.heap.size 29 2 (.slice (some ⟨g, 0, none⟩) (m + 1) vc') (o ++ [(p.1, max p.2 r[k].2)]).length (encs (o ++ [(p.1, max p.2 r[k].2)])) ∧
              Below w.heap.size w (((wr.alloc o').drewN n).setCell ⟨g, m * 2 + 1, none⟩ (.int .i64 (max p.2 r[k].2)))) := by
            intro o' n
            have hq : ((wr.alloc o').drewN n).ownsRow w.heap.size 29 2 (.slice (some ⟨g, 0, none⟩) (m + 1) vc') (m + 1) (encs out) := hown.alloc o'
            have hst := (hq.stored (m * 2 + 1) (.int .i64 (max p.2 r[k].2))).1
            have he : (encs out).set (m * 2 + 1) (.int .i64 (max p.2 r[k].2)) = encs (o ++ [(p.1, max p.2 r[k].2)]) := by
              rw [HO.out, encs_append, encs_append, List.set_append_right _ _ (by rw [encs_length, HM.out]; omega), encs_length, HM.out, show m * 2 + 1 - m * 2 = 1 by omega]
              rfl
            rw [he] at hst
            have hlen : (o ++ [(p.1, max p.2 r[k].2)]).length = m + 1 := by simp [HM.out]
            rw [hlen]
            exact ⟨hst, (below_drewN (hb.alloc hsz o') n).setCell hgl.1 _⟩
          go_wp2
          go_quiet (fail)
          go_wp2
          go_region
          clear hown cp fz c0 c1
          go_wp2
          go_roundw
          case rel => exact ⟨k + 1, _, by omega, by go_num, HJ'.out, (HR.out _ _).1, (HR.out _ _).2⟩
          case measure => simp [intOf]; omega
    · have hkl : k = r.length := by omega
      subst hkl
      clear hl
      go_wp2
      go_ret
      exact ⟨_, _, rfl, HJ.out, hown, hb⟩

/-- what Norm answers -/
def NormRes (l : List (Int × Int)) (n : Int) (r : List (Int × Int)) : Prop := (cbs l ≠ 0 ∧ n = cbs l ∧ r = []) ∨ (cbs l = 0 ∧ n = 0 ∧ NormIs l r)

set_option maxHeartbeats 1000000 in
theorem Norm_own (ao : Option Addr) (cap : Nat) (l : List (Int × Int)) (w : World) (hl : IvAt w ao l) :
    Calls Try.prog 15 #[.slice ao l.length cap] w fun e w' => ∃ n r, NormRes l n r ∧ Told2 w w' e n r := by
  have hcb := checkBounds_any ao cap l w hl
  rcases cbs_cases l with ⟨e1, _⟩ | ⟨e1, _, _⟩ | ⟨e1, h3, hn⟩
  · rw [e1] at hcb
    have HC : Hid (NormRes l 2 []) := .inl ⟨by rw [e1]; decide, e1.symm, rfl⟩
    clear e1
    go_enter Try.func15, Try.ntmps15
    go_wp2_with (go_at_call 29; refine hcb.mono ?_; rintro e w1 ⟨rfl, hb1⟩)
    go_ret2
    exact ⟨_, _, HC.out, _, rfl, nil2 _ _, by assumption⟩
  · rw [e1] at hcb
    have HC : Hid (NormRes l 5 []) := .inl ⟨by rw [e1]; decide, e1.symm, rfl⟩
    clear e1
    go_enter Try.func15, Try.ntmps15
    go_wp2_with (go_at_call 29; refine hcb.mono ?_; rintro e w1 ⟨rfl, hb1⟩)
    go_ret2
    exact ⟨_, _, HC.out, _, rfl, nil2 _ _, by assumption⟩
  rw [e1] at hcb
  have HE : Hid (cbs l = 0) := e1
  have HN : Hid (Near l l.length) := hn
  clear e1 hn
  go_enter Try.func15, Try.ntmps15
  go_wp2_with fail
  refine hcb.mono ?_
  rintro e w1 ⟨rfl, hb1⟩
  go_wp2_with fail
  refine (rising_any ao cap l w1 (hl.below hb1) h3).mono ?_
  rintro e w2 ⟨zo, zc, r, rfl, hp, hs, hz, hb2⟩
  have hb2' : Below w.heap.size w w2 := hb1.trans (hb2.mono hb1.size)
  have hmem : ∀ p ∈ r, p ∈ l ∧ p.1 < p.2 := fun p hpr => by
    have := hp.mem_iff.1 hpr
    unfold filt at this
    rw [List.mem_filter] at this
    exact ⟨this.1, by simpa using this.2⟩
  have hrl : r.length ≤ 200 := by have := hp.length_eq; have := filt_length l; omega
  have HP : Hid (r.Perm (filt l)) := hp
  have hj := join_own zo zc r w2 hz hrl hs (fun p h => (hmem p h).2) (fun p h => near_mem HN.out p (hmem p h).1)
  clear hp hmem hs
  go_wp2_with fail
  refine hj.mono ?_
  rintro e w3 ⟨v3, out, rfl, hJ, hy, hb3⟩
  have HC : Hid (NormRes l 0 out) := .inr ⟨HE.out, rfl, normIs_of_jn HP.out hJ⟩
  have hb3' : Below w.heap.size w w3 := hb2'.trans (hb3.mono hb2'.size)
  clear hJ hj
  go_wp2
  go_ret2
  exact ⟨_, _, HC.out, _, rfl, owns_base2 hy hb2'.size, hb3'⟩
theorem Norm_any (ao : Option Addr) (cap : Nat) (l : List (Int × Int)) (w : World) (hl : IvAt w ao l) :
    Calls Try.prog 15 #[.slice ao l.length cap] w fun e w' => ∃ n r, NormRes l n r ∧ Told w w' e n r :=
  (Norm_own ao cap l w hl).mono fun _ _ ⟨n, r, hC, h⟩ => ⟨n, r, hC, told_of_own h⟩

end Go.Proofs.Ytjlnokjaabcldah
