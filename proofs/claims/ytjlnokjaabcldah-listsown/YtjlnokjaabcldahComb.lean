/-
  What combine, Union, Meet and Minus of the program answer: the set of the times that are asked for.
-/
import Derived.Test.YtjlnokjaabcldahChk
import Derived.Test.YtjlnokjaabcldahBnd
import Derived.Test.YtjlnokjaabcldahSwp
import Derived.Test.YtjlnokjaabcldahBtw
namespace Go.Proofs.Ytjlnokjaabcldah
open Go.RowKit

/-- what Union, Meet, Minus come to -/
def CombIs (want : Bool → Bool → Bool) (a b : List (Int × Int)) (n : Int) (r : List (Int × Int)) : Prop :=
  (chk a ≠ 0 ∧ n = chk a ∧ r = []) ∨ (chk a = 0 ∧ chk b ≠ 0 ∧ n = chk b ∧ r = []) ∨
  (chk a = 0 ∧ chk b = 0 ∧ ∃ s, SetIs want a b s ∧ ((200 < s.length ∧ n = 2 ∧ r = []) ∨ (s.length ≤ 200 ∧ n = 0 ∧ r = s)))

theorem setIs_of_sweep {want : Bool → Bool → Bool} (hw : want false false = false) {a b : List (Int × Int)} {r : List Int} (ha : Form a a.length) (hb : Form b b.length) (S : Swp want (flat a) (flat b) (flat a).length (flat b).length r) :
    ∃ s, r = flat s ∧ SetIs want a b s := by
  obtain ⟨h1, h2⟩ := setIs_of_swp hw (canon_of_form ha) (canon_of_form hb) S
  exact ⟨pairs r, (flat_pairs r h1).symm, h2⟩

set_option maxHeartbeats 2000000 in
theorem combine_own (g : Nat) (want : Bool → Bool → Bool) (hw0 : want false false = false) (eg : ∀ args w, (callFunc g args).run Try.prog w = .ok (.enter g args) w)
    (hg : ∀ x y w, Calls Try.prog g #[.bool x, .bool y] w fun e w' => e = .returned (.bool (want x y)) ∧ w' = w)
    (ao bo : Option Addr) (ca cb : Nat) (a b : List (Int × Int)) (w : World) (hA : IvAt w ao a) (hB : IvAt w bo b) :
    Calls Try.prog 25 #[.slice ao a.length ca, .slice bo b.length cb, .func (.func g) #[] #[]] w fun e w' => ∃ n r, CombIs want a b n r ∧ Told2 w w' e n r := by
  have h1 := check_any ao ca a w hA
  rcases chk_cases a with e1 | e1 | ⟨e1, la, na, fa⟩
  · rw [e1] at h1
    have HC : Hid (CombIs want a b 2 []) := .inl ⟨by rw [e1]; decide, e1.symm, rfl⟩
    clear e1
    go_enter Try.func25, Try.ntmps25
    go_wp2_with (go_at_call 45; refine h1.mono ?_; rintro e w1 ⟨rfl, hb1⟩)
    go_ret2
    exact ⟨_, _, HC.out, _, rfl, nil2 _ _, by assumption⟩
  · rw [e1] at h1
    have HC : Hid (CombIs want a b 5 []) := .inl ⟨by rw [e1]; decide, e1.symm, rfl⟩
    clear e1
    go_enter Try.func25, Try.ntmps25
    go_wp2_with (go_at_call 45; refine h1.mono ?_; rintro e w1 ⟨rfl, hb1⟩)
    go_ret2
    exact ⟨_, _, HC.out, _, rfl, nil2 _ _, by assumption⟩
  rw [e1] at h1
  have HE1 : Hid (chk a = 0) := e1
  clear e1
  have h2 := fun w1 (hb1 : Below w.heap.size w w1) => check_any bo cb b w1 (hB.below hb1)
  rcases chk_cases b with e2 | e2 | ⟨e2, lb, nb, fb⟩
  · simp only [e2] at h2
    have HC : Hid (CombIs want a b 2 []) := .inr (.inl ⟨HE1.out, by rw [e2]; decide, e2.symm, rfl⟩)
    clear e2 na fa
    go_enter Try.func25, Try.ntmps25
    go_wp2_with fail
    refine h1.mono ?_
    rintro e w1 ⟨rfl, hb1⟩
    go_wp2_with fail
    refine (h2 w1 hb1).mono ?_
    rintro e w2 ⟨rfl, hb2⟩
    go_wp2
    go_ret2
    exact ⟨_, _, HC.out, _, rfl, nil2 _ _, hb1.trans (hb2.mono hb1.size)⟩
  · simp only [e2] at h2
    have HC : Hid (CombIs want a b 5 []) := .inr (.inl ⟨HE1.out, by rw [e2]; decide, e2.symm, rfl⟩)
    clear e2 na fa
    go_enter Try.func25, Try.ntmps25
    go_wp2_with fail
    refine h1.mono ?_
    rintro e w1 ⟨rfl, hb1⟩
    go_wp2_with fail
    refine (h2 w1 hb1).mono ?_
    rintro e w2 ⟨rfl, hb2⟩
    go_wp2
    go_ret2
    exact ⟨_, _, HC.out, _, rfl, nil2 _ _, hb1.trans (hb2.mono hb1.size)⟩
  simp only [e2] at h2
  have HE2 : Hid (chk b = 0) := e2
  have HNA : Hid (∀ x ∈ flat a, nearB x) := near_flat na
  have HNB : Hid (∀ x ∈ flat b, nearB x) := near_flat nb
  have HFA : Hid (Form a a.length) := fa
  have HFB : Hid (Form b b.length) := fb
  have HW : Hid (want false false = false) := hw0
  have HG := hg
  clear e2 na nb fa fb hw0
  go_enter Try.func25, Try.ntmps25
  go_wp2_with fail
  refine h1.mono ?_
  rintro e w1 ⟨rfl, hb1⟩
  go_wp2_with fail
  refine (h2 w1 hb1).mono ?_
  rintro e w2 ⟨rfl, hb2⟩
  have hb2' : Below w.heap.size w w2 := hb1.trans (hb2.mono hb1.size)
  clear hb1 hb2
  go_wp2_with fail
  refine (bounds_any ao ca a w2 (hA.below hb2') la).mono ?_
  rintro e w3 ⟨zo, rfl, hz3, hb3⟩
  have hb3' : Below w.heap.size w w3 := hb2'.trans (hb3.mono hb2'.size)
  go_wp2_with fail
  refine (bounds_any bo cb b w3 (hB.below hb3') lb).mono ?_
  rintro e w4 ⟨yo, rfl, hz4, hb4⟩
  have hb4' : Below w.heap.size w w4 := hb3'.trans (hb4.mono hb3'.size)
  go_wp2_with fail
  refine (sweep_any g want HW.out eg hg zo yo (flat a) (flat b) w4 (hz3.below hb4) hz4 HNA.out HNB.out (by rw [flat_length]; omega) (by rw [flat_length]; omega) (canon_of_form HFA.out) (canon_of_form HFB.out)).mono ?_
  rintro e w5 ⟨so, sc, r, rfl, hz5, hS, hb5⟩
  obtain ⟨s, rfl, hIs⟩ := setIs_of_sweep HW.out HFA.out HFB.out hS
  have hb5' : Below w.heap.size w w5 := hb4'.trans (hb5.mono hb4'.size)
  have hls := hIs.len
  have HIs : Hid (SetIs want a b s) := hIs
  clear hS hIs
  go_wp2_with fail
  refine (between_own so (flat s).length sc s w5 hz5 (flat_length s) (by omega)).mono ?_
  rintro e w6 ⟨v6, rfl, ho6, hb6⟩
  obtain ⟨ro, rc, rfl, _⟩ := ivAt_of_owns ho6
  have HO6 := hide2 (owns_base2 ho6 hb5'.size)
  clear ho6
  have hb6' : Below w.heap.size w w6 := hb5'.trans (hb6.mono hb5'.size)
  by_cases h200 : 200 < s.length
  · have HC : Hid (CombIs want a b 2 []) := .inr (.inr ⟨HE1.out, HE2.out, s, HIs.out, .inl ⟨h200, rfl, rfl⟩⟩)
    go_wp2
    go_ret2
    exact ⟨_, _, HC.out, _, rfl, nil2 _ _, hb6'⟩
  · have HC : Hid (CombIs want a b 0 s) := .inr (.inr ⟨HE1.out, HE2.out, s, HIs.out, .inr ⟨by omega, rfl, rfl⟩⟩)
    go_wp2
    go_ret2
    exact ⟨_, _, HC.out, _, rfl, HO6.out, hb6'⟩
theorem combine_any (g : Nat) (want : Bool → Bool → Bool) (hw0 : want false false = false) (eg : ∀ args w, (callFunc g args).run Try.prog w = .ok (.enter g args) w)
    (hg : ∀ x y w, Calls Try.prog g #[.bool x, .bool y] w fun e w' => e = .returned (.bool (want x y)) ∧ w' = w)
    (ao bo : Option Addr) (ca cb : Nat) (a b : List (Int × Int)) (w : World) (hA : IvAt w ao a) (hB : IvAt w bo b) :
    Calls Try.prog 25 #[.slice ao a.length ca, .slice bo b.length cb, .func (.func g) #[] #[]] w fun e w' => ∃ n r, CombIs want a b n r ∧ Told w w' e n r :=
  (combine_own g want hw0 eg hg ao bo ca cb a b w hA hB).mono fun _ _ ⟨n, r, hC, h⟩ => ⟨n, r, hC, told_of_own h⟩

end Go.Proofs.Ytjlnokjaabcldah
