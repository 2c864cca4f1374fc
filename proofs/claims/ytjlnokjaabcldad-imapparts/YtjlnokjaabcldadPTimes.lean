/-
  What Times of the program's maps answers: the set of the times of the pieces.
-/
import Derived.Test.YtjlnokjaabcldadPCheck
import Derived.Test.YtjlnokjaabcldadBox
import Derived.Test.YtjlnokjaabcldadBtw
import Derived.Test.YtjlnokjaabcldadNorm
namespace Go.Proofs.Ytjlnokjaabcldad
open Go.RowKit

/-- the intervals of the pieces -/
def ivsOf (m : List (Int × Int × Int)) : List (Int × Int) := m.map fun p => (p.1, p.2.1)
theorem ivsOf_length (m : List (Int × Int × Int)) : (ivsOf m).length = m.length := by simp [ivsOf]
theorem ivsOf_succ (m : List (Int × Int × Int)) (k : Nat) (hk : k < m.length) : encs (ivsOf (m.take (k + 1))) = encs (ivsOf (m.take k)) ++ [.int .i64 m[k].1, .int .i64 m[k].2.1] := by
  rw [take_succ_get m k hk]
  unfold ivsOf encs flat
  rw [List.map_append, List.flatMap_append, List.map_append]
  rfl
theorem has_ivsOf (m : List (Int × Int × Int)) (t : Int) : has (ivsOf m) t = (tel m t).isSome := by
  induction m with
  | nil => rfl
  | cons p m ih =>
    rw [ivsOf, List.map_cons, has_cons, tel_cons]
    rw [ivsOf] at ih
    rw [ih]
    unfold inP
    cases decide (p.1 ≤ t) && decide (t < p.2.1) <;> simp

/-- what Times comes to -/
def TimesIs (m : List (Int × Int × Int)) (n : Int) (r : List (Int × Int)) : Prop := (¬ mchk m = 0 ∧ n = mchk m ∧ r = []) ∨ (mchk m = 0 ∧ NormRes (ivsOf m) n r)

theorem cbs_ivsOf {m : List (Int × Int × Int)} (h : mchk m = 0) : cbs (ivsOf m) = 0 := by
  obtain ⟨hl, _, hn⟩ := mchk_good h
  refine cbs_ok (by rw [ivsOf_length]; exact hl) fun i hi => ?_
  rw [ivsOf_length] at hi
  have := hn m[i] (List.getElem_mem hi)
  have e : (ivsOf m).getD i (0, 0) = (m[i].1, m[i].2.1) := by
    simp [ivsOf, List.getD_eq_getElem?_getD, List.getElem?_eq_getElem hi]
  rw [e]
  exact ⟨this.1, this.2.1⟩

set_option maxRecDepth 100000 in
set_option maxHeartbeats 4000000 in
theorem Times_any (ao : Option Addr) (ca : Nat) (m : List (Int × Int × Int)) (w : World) (hA : PcAt w ao m) :
    Calls Try.prog 26 #[.slice ao m.length ca] w fun e w' => ∃ n r, TimesIs m n r ∧ Told w w' e n r := by
  have h1 := PCheck_any ao ca m w hA
  by_cases e1 : ¬ mchk m = 0
  · obtain ⟨n, en, hn⟩ := mchk_bad e1
    have HC : Hid (TimesIs m n []) := .inl ⟨e1, en.symm, rfl⟩
    simp only [en] at h1
    clear e1 en
    rcases hn with rfl | rfl
    all_goals
      go_enter Try.func26, Try.ntmps26
      go_wp2_with fail
      refine h1.mono ?_
      rintro e w1 ⟨rfl, hb1⟩
      go_wp2
      go_ret2
      exact ⟨_, _, HC.out, _, _, rfl, .inl rfl, hb1⟩
  rw [Decidable.not_not] at e1
  simp only [e1] at h1
  have h200 := (mchk_good e1).1
  have HE1 : Hid (mchk m = 0) := e1
  clear e1
  obtain ⟨i0, hi, hz0, hz1, hz2⟩ := info_parts Try.infoIvl
  go_enter Try.func26, Try.ntmps26
  go_wp2_with fail
  refine h1.mono ?_
  rintro e w1 ⟨rfl, hb1⟩
  go_wp2
  go_loopw [5, 15] (fun v i wr => ∃ k : Nat, k ≤ m.length ∧ i = .int .i64 k ∧ wr.ownsRow w1.heap.size 27 2 v k (encs (ivsOf (m.take k))) ∧ Below w1.heap.size w1 wr) (fun _ i _ => m.length - (intOf i).toNat)
  case atStart => exact ⟨0, Nat.zero_le _, rfl, World.ownsRow_nil _ _ _ _, Below.refl _ _⟩
  case round =>
    obtain ⟨k, hk, rfl, hown, hb⟩ := hrel
    by_cases hlt : k < m.length
    · rcases (hA.below hb1).below hb with h0 | ⟨b, off, rfl, hbw, hc⟩
      · subst h0; simp at hlt
      obtain ⟨c0, c1, c2⟩ := PcAt.get hlt hc
      clear hc
      have hsz := hb.size
      have hk2 : k ≤ 200 := by omega
      go_wp2_with (at_builtin; refine wpList_append_own _ rfl _ _ 22 rfl w1.heap.size 27 i0 (.agg #[.int .i64 0, .int .i64 0]) 2 16 Try.underlying22 hi hz0 hz1 hz2 rfl (by decide) _ _ _ rfl ((hown.alloc _).alloc _) ⟨wr.heap.size + 1, 0, none⟩ 1 1 [.int .i64 m[k].1, .int .i64 m[k].2.1] rfl rfl ?c1 ?c2 ?c3 ?c4 ?c5 ?_)
      case c1 => exact cells_two_new _ _ _ _ _ (by simp)
      case c2 => intro u hu; simp at hu; rcases hu with rfl | rfl <;> rfl
      case c3 => unfold maxLen; omega
      case c4 => omega
      case c5 => simp; omega
      intro v' w2 hown' hgrow _
      have R : w2.ownsRow w1.heap.size 27 2 v' (k + 1) (encs (ivsOf (m.take (k + 1)))) := by
        rw [ivsOf_succ m k hlt]; exact hown'
      have hb' : Below w1.heap.size w1 w2 := ((hb.alloc hsz _).alloc (by simp; omega) _).grown hgrow (by simp; omega) (fun j hj => (hown.lt j hj).1)
      clear hown hown' hgrow hA h1
      go_wp2
      go_roundw
      case rel => exact ⟨k + 1, by omega, by go_num, R, hb'⟩
      case measure => simp [intOf]; omega
    · have hkl : k = m.length := by omega
      subst hkl
      rw [List.take_length] at hown
      obtain ⟨vo, vc, rfl, hz⟩ := ivAt_of_owns hown
      have hN := Norm_any vo vc (ivsOf m) wr hz
      rw [ivsOf_length] at hN ⊢
      clear hown hz
      go_wp2_with fail
      refine hN.mono ?_
      rintro e w2 ⟨n, r, hR, ro, rc, rfl, hz2, hb2⟩
      have HC : Hid (TimesIs m n r) := .inr ⟨HE1.out, hR⟩
      have hbF : Below w.heap.size w w2 := ptw (ptw hb1 hb) hb2
      clear hR hb2
      go_wp2
      go_ret2
      exact ⟨_, _, HC.out, _, _, rfl, hz2, hbF⟩

end Go.Proofs.Ytjlnokjaabcldad
