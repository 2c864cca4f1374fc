/-
  What is cut and what is kept is all. Plain mathematics, without any program.
-/
import Derived.Test.YtjlnokjaabcldadBMath
import Derived.Test.YtjlnokjaabcldadPPick
import Derived.Test.YtjlnokjaabcldadPTimes
import Derived.Test.YtjlnokjaabcldadKeep
namespace Go.Proofs.Ytjlnokjaabcldad

theorem only_ok {T : List Int} {m : List (Int × Int × Int)} {A : List (Int × Int)} {bb : Bool} {n : Int} {r : List (Int × Int × Int)} (h : OnlyIs m A bb n r) (hm : MOf T m) (hT : T.length ≤ 80) (hA : Good 60 A) : n = 0 ∧ mchk r = 0 ∧ r.length ≤ 200 ∧ ∀ t, tel r t = onlyF m A bb t := by
  have hf : (T ++ flat A).length ≤ 200 := by rw [List.length_append, flat_length]; have := hA.len; omega
  rcases h with ⟨h, _⟩ | ⟨_, h, _⟩ | ⟨_, _, h⟩
  · exact absurd (hm.chk (by omega)) h
  · exact absurd (hA.chk (by omega)) h
  · have hv : ∀ s v, onlyF m A bb s = some v → nearB v := by
      intro s v hv
      unfold onlyF at hv
      split at hv
      · exact tel_near hm.near hv
      · cases hv
    have hx1 : ∀ x ∈ turnsOf m ++ flat A, nearB x := by
      intro x hx
      rw [List.mem_append] at hx
      rcases hx with hx | hx
      · exact turnsOf_near hm.near x hx
      · exact hA.near x hx
    have hx2 : ∀ x ∈ turnsOf m ++ flat A, x ∈ T ++ flat A := by
      intro x hx
      rw [List.mem_append] at hx ⊢
      rcases hx with hx | hx
      · exact .inl (hm.turns x hx)
      · exact .inr hx
    obtain ⟨h1, h2, h3⟩ := mapIs_ok (T := T ++ flat A) h (fun S hS => onlyF_turns hS) hv hx1 hx2 hf
    exact ⟨h1, h2.chk hf, Nat.le_trans h2.len hf, h3⟩
theorem parts_all {m cut keep : List (Int × Int × Int)} {A : List (Int × Int)} {how n : Int} {r : List (Int × Int × Int)} (h : MergeIs cut keep how n r) (hh : how = 1 ∨ how = 2 ∨ how = 3) (hc : mchk cut = 0) (hk : mchk keep = 0) (hm : mchk m = 0)
    (tc : ∀ t, tel cut t = onlyF m A false t) (tk : ∀ t, tel keep t = onlyF m A true t) : n = 0 ∧ r = m := by
  rcases h with ⟨h, _⟩ | ⟨_, h, _⟩ | ⟨_, _, h, _⟩ | ⟨_, _, _, h⟩
  · exact absurd hc h
  · exact absurd hk h
  · exact absurd hh h
  · refine mapIs_known h (fun S hS => mergeF_turns hS) hm fun t => ?_
    unfold mergeF
    rw [tc, tk]
    unfold onlyF
    cases has A t
    · simp only [Bool.false_eq_true, if_true, if_false]
      cases tel m t <;> rfl
    · simp only [Bool.true_eq_false, if_true, if_false]
      rfl
theorem times_ok {m : List (Int × Int × Int)} {n : Int} {r : List (Int × Int)} (h : TimesIs m n r) (hm : mchk m = 0) : n = 0 ∧ Good m.length r ∧ ∀ t, has r t = (tel m t).isSome := by
  rcases h with ⟨h, _⟩ | ⟨_, h | ⟨_, h, hN⟩⟩
  · exact absurd hm h
  · exact absurd (cbs_ivsOf hm) h.1
  · refine ⟨h, ⟨hN.canon, hN.near, ?_⟩, fun t => ?_⟩
    · have := hN.len
      rwa [ivsOf_length] at this
    · rw [hN.pts, has_ivsOf]
theorem parts_times {m keep : List (Int × Int × Int)} {A a b r : List (Int × Int)} {na nb : Nat} (ha : Good na a) (ta : ∀ t, has a t = (tel keep t).isSome) (_hb : Good nb b) (tb : ∀ t, has b t = (tel m t).isSome) (hr : SetIs wAnd b A r) (tk : ∀ t, tel keep t = onlyF m A true t) : a = r := by
  refine canon_unique ha.canon hr.canon fun t => ?_
  rw [ta, hr.pts, tb, tk]
  unfold onlyF wAnd
  cases has A t
  · simp
  · simp

end Go.Proofs.Ytjlnokjaabcldad
