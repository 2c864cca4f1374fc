/-
  What the parts of Merge of the reference answer.
-/
import Derived.Test.YtjlnokjaabcldaaRTld
import Derived.Test.YtjlnokjaabcldaaRTrn
import Derived.Test.YtjlnokjaabcldaaRMapC
import Derived.Test.YtjlnokjaabcldaaRSets
import Derived.Test.YtjlnokjaabcldaaMTurns
import Derived.Test.YtjlnokjaabcldaaBox
import Derived.Test.YtjlnokjaabcldaaRBth
namespace Go.Proofs.Ytjlnokjaabcldaa
open Go.RowKit

set_option maxRecDepth 100000 in
set_option maxHeartbeats 2000000 in
theorem rmerge1_any (Ba Bb Bh : Nat) (how : Int) (hh : how = 1 ∨ how = 2 ∨ how = 3) (ao bo : Option Addr) (ca cb : Nat) (a b : List (Int × Int × Int)) (t : Int) (w : World) (hA : PcAt w ao a) (hB : PcAt w bo b) (la : a.length ≤ 200) (lb : b.length ≤ 200) (na : ∀ p ∈ a, NearP p) (nb : ∀ p ∈ b, NearP p)
    (c1 : w.cell? ⟨Ba, 0, none⟩ = some (.slice ao a.length ca)) (c2 : w.cell? ⟨Bb, 0, none⟩ = some (.slice bo b.length cb)) (c3 : w.cell? ⟨Bh, 0, none⟩ = some (.int .i64 how)) :
    Calls Try.prog 62 #[.int .i64 t, .pointer (some ⟨Ba, 0, none⟩), .pointer (some ⟨Bb, 0, none⟩), .pointer (some ⟨Bh, 0, none⟩)] w fun e w' => (∃ x, e = .returned (.tuple #[.int .i64 x, .bool (mergeF a b how t).isSome]) ∧ ∀ y, mergeF a b how t = some y → x = y) ∧ Below w.heap.size w w' := by
  have hHa := RAt_any ao ca a t w hA (by omega)
  have hHb := RAt_any bo cb b t w hB (by omega)
  have hna : ∀ x, tel a t = some x → nearB x := fun x h => tel_near na h
  have hnb : ∀ x, tel b t = some x → nearB x := fun x h => tel_near nb h
  have HF : Hid (mergeF a b how t = mrg how (tel a t) (tel b t)) := rfl
  rw [HF.out]
  clear hA hB na nb HF
  cases hx : tel a t with
  | none =>
    simp only [hx, Option.getD_none, Option.isSome_none] at hHa
    cases hy : tel b t with
    | none =>
      simp only [hy, Option.getD_none, Option.isSome_none] at hHb
      clear hx hy hna hnb
      go_enter Try.func62, Try.ntmps62
      go_wp2_with fail
      refine hHa.mono ?_
      rintro e w1 ⟨rfl, rfl⟩
      go_wp2_with fail
      refine hHb.mono ?_
      rintro e w2 ⟨rfl, rfl⟩
      go_wp2
      go_ret2
      exact ⟨⟨0, rfl, fun y h => by cases h⟩, Below.refl _ _⟩
    | some y =>
      simp only [hy, Option.getD_some, Option.isSome_some] at hHb
      have hny := hnb y hy
      unfold nearB at hny
      obtain ⟨y1, y2⟩ := hny
      have hz : (0 : Int) + y = y := by omega
      clear hx hy hna hnb
      go_enter Try.func62, Try.ntmps62
      go_wp2_with fail
      refine hHa.mono ?_
      rintro e w1 ⟨rfl, rfl⟩
      go_wp2_with fail
      refine hHb.mono ?_
      rintro e w2 ⟨rfl, rfl⟩
      go_wp2
      go_ret2
      exact ⟨⟨y, by first | rfl | (simp; rfl), fun z h => by cases h; rfl⟩, Below.refl _ _⟩
  | some x =>
    simp only [hx, Option.getD_some, Option.isSome_some] at hHa
    have hnx := hna x hx
    cases hy : tel b t with
    | none =>
      simp only [hy, Option.getD_none, Option.isSome_none] at hHb
      unfold nearB at hnx
      obtain ⟨x1, x2⟩ := hnx
      clear hx hy hna hnb
      go_enter Try.func62, Try.ntmps62
      go_wp2_with fail
      refine hHa.mono ?_
      rintro e w1 ⟨rfl, rfl⟩
      go_wp2_with fail
      refine hHb.mono ?_
      rintro e w2 ⟨rfl, rfl⟩
      go_wp2
      go_ret2
      exact ⟨⟨x, by first | rfl | (simp; rfl), fun z h => by cases h; rfl⟩, Below.refl _ _⟩
    | some y =>
      simp only [hy, Option.getD_some, Option.isSome_some] at hHb
      have hT := fun W => Both_any x y how W hh (wide_of_near hnx) (wide_of_near (hnb y hy))
      have HR : Hid (mrg how (some x) (some y) = some (both how x y)) := rfl
      rw [HR.out]
      clear hx hy hna hnb HR hnx
      generalize both how x y = q at hT ⊢
      go_enter Try.func62, Try.ntmps62
      go_wp2_with fail
      refine hHa.mono ?_
      rintro e w1 ⟨rfl, rfl⟩
      go_wp2_with fail
      refine hHb.mono ?_
      rintro e w2 ⟨rfl, rfl⟩
      go_wp2_with (go_at_call 63; refine (hT _).mono ?_; rintro e w' ⟨rfl, rfl⟩)
      go_ret2
      exact ⟨⟨q, rfl, fun z h => by cases h; rfl⟩, Below.refl _ _⟩

theorem told_own (g : Nat) (caps : Array Value) (f : Int → Option Int) (eg : ∀ args w, (callFunc g args).run Try.prog w = .ok (.enter g args) w) (w : World)
    (hp : ∀ t wq, Below w.heap.size w wq → Calls Try.prog g (#[.int .i64 t] ++ caps) wq fun e w' => (∃ x, e = .returned (.tuple #[.int .i64 x, .bool (f t).isSome]) ∧ ∀ y, f t = some y → x = y) ∧ Below wq.heap.size wq w')
    {base e : Nat} {v : Value} {A : List Int} (hown : w.ownsRow base e 1 v A.length (A.map (Value.int .i64))) (h8 : A.length ≤ 800) :
    Calls Try.prog 51 #[v, .func (.func g) #[] caps] w fun e w' => ∃ v S out, e = .returned v ∧ Ordered A S ∧ Tl S f (S.length - 1) out ∧ w'.ownsRow w.heap.size 38 3 v out.length (enc3 out) ∧ Below w.heap.size w w' := by
  obtain ⟨ao, ca, rfl, hbd⟩ := rbounds_own hown h8
  exact told_core g caps f eg w hp ao A.length ca A h8 hbd

theorem turns_nil (ao : Option Addr) (cap : Nat) (l : List (Int × Int × Int)) (w : World) (hl : PcAt w ao l) (h0 : l = []) :
    Calls Try.prog 52 #[.slice ao l.length cap] w fun e w' => e = .returned (.slice none 0 0) ∧ Below w.heap.size w w' :=
  (turns_any ao cap l w hl (by rw [h0]; simp)).mono fun e w' ⟨v, he, _, hn, hb⟩ => ⟨by rw [he, hn (by rw [h0]; rfl)], hb⟩
theorem turns_some (ao : Option Addr) (cap : Nat) (l : List (Int × Int × Int)) (w : World) (hl : PcAt w ao l) (h3 : l.length ≤ 200) (h0 : l ≠ []) :
    Calls Try.prog 52 #[.slice ao l.length cap] w fun e w' => ∃ g c, e = .returned (.slice (some ⟨g, 0, none⟩) (2 * l.length) c) ∧ w'.ownsRow w.heap.size 3 1 (.slice (some ⟨g, 0, none⟩) (2 * l.length) c) (2 * l.length) ((turnsOf l).map (Value.int .i64)) ∧ Below w.heap.size w w' := by
  refine (turns_any ao cap l w hl h3).mono ?_
  rintro e w' ⟨v, rfl, hown, _, hb⟩
  have hp : 0 < l.length := by cases l; exact absurd rfl h0; simp
  rcases hown.2 with ⟨_, h⟩ | ⟨g, c, cur, rfl, _⟩
  · omega
  · exact ⟨g, c, rfl, hown, hb⟩

theorem small_any (base : Nat) (v : Value) (out : List (Int × Int × Int)) (w : World) (hown : w.ownsRow base 38 3 v out.length (enc3 out)) (hn : ∀ q ∈ out, NearP q) (hlen : out.length ≤ 1000) :
    Calls Try.prog 50 #[v] w fun e w' => ∃ n r v', FitIs out n r ∧ e = .returned (.tuple #[v', .int .i64 n]) ∧ w'.ownsRow base 38 3 v' r.length (enc3 r) ∧ w' = w := by
  obtain ⟨vo, vc, hve, _⟩ := pcAt_of_owns hown
  subst hve
  have HOW : Hid (w.ownsRow base 38 3 (.slice vo out.length vc) out.length (enc3 out)) := hown
  have HNil : Hid (w.ownsRow base 38 3 (.slice none 0 0) ([] : List (Int × Int × Int)).length (enc3 [])) := World.ownsRow_nil _ _ _ _
  have HN : Hid (∀ q ∈ out, NearP q) := hn
  clear hown hn
  by_cases h200 : 200 < out.length
  · have HC : Hid (FitIs out 2 []) := .inr (.inl ⟨HN.out, h200, rfl, rfl⟩)
    go_enter Try.func50, Try.ntmps50
    go_wp2
    go_ret2
    exact ⟨_, _, _, HC.out, rfl, HNil.out, rfl⟩
  · have HC : Hid (FitIs out 0 out) := .inr (.inr ⟨HN.out, by omega, rfl, rfl⟩)
    go_enter Try.func50, Try.ntmps50
    go_wp2
    go_ret2
    exact ⟨_, _, _, HC.out, rfl, HOW.out, rfl⟩

/-- ends and values of what is told are near, if the times are and what is told is -/
theorem tl_near {A S : List Int} {f : Int → Option Int} {i : Nat} {out : List (Int × Int × Int)} (hO : Ordered A S) (T : Tl S f i out) (hA : ∀ x ∈ A, nearB x) : ∀ q ∈ out, nearB q.2.2 → NearP q := by
  intro q hq hv
  have := T.mem q hq
  exact ⟨hA _ ((hO.mem _).1 this.1), hA _ ((hO.mem _).1 this.2.1), hv⟩

end Go.Proofs.Ytjlnokjaabcldaa
