/-
  What Merge of the program's maps answers.
-/
import Derived.Test.YtjlnokjaabcldaePBld
import Derived.Test.YtjlnokjaabcldaePBnd
import Derived.Test.YtjlnokjaabcldaePCheck
import Derived.Test.YtjlnokjaabcldaeMTurns
import Derived.Test.YtjlnokjaabcldaeBox
import Derived.Test.YtjlnokjaabcldaePJn
namespace Go.Proofs.Ytjlnokjaabcldae
open Go.RowKit

set_option maxRecDepth 100000 in
set_option maxHeartbeats 2000000 in
theorem merge1_any (Ba Bb Bh : Nat) (how : Int) (hh : how = 1 ∨ how = 2 ∨ how = 3) (ao bo : Option Addr) (ca cb : Nat) (a b : List (Int × Int × Int)) (t : Int) (w : World) (hA : PcAt w ao a) (hB : PcAt w bo b) (la : a.length ≤ 200) (lb : b.length ≤ 200) (na : ∀ p ∈ a, NearP p) (nb : ∀ p ∈ b, NearP p)
    (c1 : w.cell? ⟨Ba, 0, none⟩ = some (.slice ao a.length ca)) (c2 : w.cell? ⟨Bb, 0, none⟩ = some (.slice bo b.length cb)) (c3 : w.cell? ⟨Bh, 0, none⟩ = some (.int .i64 how)) :
    Calls Try.prog 32 #[.int .i64 t, .pointer (some ⟨Ba, 0, none⟩), .pointer (some ⟨Bb, 0, none⟩), .pointer (some ⟨Bh, 0, none⟩)] w fun e w' => (∃ x, e = .returned (.tuple #[.int .i64 x, .bool (mergeF a b how t).isSome]) ∧ ∀ y, mergeF a b how t = some y → x = y) ∧ Below w.heap.size w w' := by
  have hHa := PAt_any ao ca a t w hA (by omega)
  have HHb : Hid (∀ W, Below w.heap.size w W → Calls Try.prog 26 #[.slice bo b.length cb, .int .i64 t] W fun e w' => e = .returned (.tuple #[.int .i64 ((tel b t).getD 0), .bool (tel b t).isSome]) ∧ Below W.heap.size W w') := fun W h => PAt_any bo cb b t W (hB.below h) (by omega)
  have l2 := World.block_lt_of_cell? w _ c2
  have l3 := World.block_lt_of_cell? w _ c3
  simp only at l2 l3
  have HC2 : Hid (∀ W, Below w.heap.size w W → W.cell? ⟨Bb, 0, none⟩ = some (.slice bo b.length cb) ∧ W.cell? ⟨Bh, 0, none⟩ = some (.int .i64 how)) := fun W h => ⟨(h.cell (p := ⟨Bb, 0, none⟩) l2).trans c2, (h.cell (p := ⟨Bh, 0, none⟩) l3).trans c3⟩
  have hna : ∀ x, tel a t = some x → nearB x := fun x h => tel_near na h
  have hnb : ∀ x, tel b t = some x → nearB x := fun x h => tel_near nb h
  have HF : Hid (mergeF a b how t = mrg how (tel a t) (tel b t)) := rfl
  rw [HF.out]
  clear hA hB na nb c2 c3 HF
  cases hx : tel a t with
  | none =>
    simp only [hx, Option.getD_none, Option.isSome_none] at hHa
    cases hy : tel b t with
    | none =>
      simp only [hy, Option.getD_none, Option.isSome_none] at HHb
      clear hx hy hna hnb
      go_enter Try.func32, Try.ntmps32
      go_wp2_with fail
      refine hHa.mono ?_
      rintro e w1 ⟨rfl, hb1⟩
      obtain ⟨d2, d3⟩ := HC2.out w1 hb1
      go_wp2_with fail
      refine (HHb.out w1 hb1).mono ?_
      rintro e w2 ⟨rfl, hb2⟩
      have hbb := ptw hb1 hb2
      clear hb1 hb2 d2
      go_wp2
      go_ret2
      exact ⟨⟨0, rfl, fun y h => by cases h⟩, hbb⟩
    | some y =>
      simp only [hy, Option.getD_some, Option.isSome_some] at HHb
      clear hx hy hna hnb
      go_enter Try.func32, Try.ntmps32
      go_wp2_with fail
      refine hHa.mono ?_
      rintro e w1 ⟨rfl, hb1⟩
      obtain ⟨d2, d3⟩ := HC2.out w1 hb1
      go_wp2_with fail
      refine (HHb.out w1 hb1).mono ?_
      rintro e w2 ⟨rfl, hb2⟩
      have hbb := ptw hb1 hb2
      clear hb1 hb2 d2
      go_wp2
      go_ret2
      exact ⟨⟨y, rfl, fun z h => by cases h; rfl⟩, hbb⟩
  | some x =>
    simp only [hx, Option.getD_some, Option.isSome_some] at hHa
    cases hy : tel b t with
    | none =>
      simp only [hy, Option.getD_none, Option.isSome_none] at HHb
      clear hx hy hna hnb
      go_enter Try.func32, Try.ntmps32
      go_wp2_with fail
      refine hHa.mono ?_
      rintro e w1 ⟨rfl, hb1⟩
      obtain ⟨d2, d3⟩ := HC2.out w1 hb1
      go_wp2_with fail
      refine (HHb.out w1 hb1).mono ?_
      rintro e w2 ⟨rfl, hb2⟩
      have hbb := ptw hb1 hb2
      clear hb1 hb2 d2
      go_wp2
      go_ret2
      exact ⟨⟨x, rfl, fun z h => by cases h; rfl⟩, hbb⟩
    | some y =>
      simp only [hy, Option.getD_some, Option.isSome_some] at HHb
      have hT := fun W => join_any x y how W hh (wide_of_near (hna x hx)) (wide_of_near (hnb y hy))
      have HR : Hid (mrg how (some x) (some y) = some (both how x y)) := rfl
      rw [HR.out]
      clear hx hy hna hnb HR
      generalize both how x y = q at hT ⊢
      go_enter Try.func32, Try.ntmps32
      go_wp2_with fail
      refine hHa.mono ?_
      rintro e w1 ⟨rfl, hb1⟩
      obtain ⟨d2, d3⟩ := HC2.out w1 hb1
      go_wp2_with fail
      refine (HHb.out w1 hb1).mono ?_
      rintro e w2 ⟨rfl, hb2⟩
      have hbb := ptw hb1 hb2
      have d3' := (HC2.out w2 hbb).2
      clear hb1 hb2 d2 d3
      go_wp2_with (go_at_call 33; refine (hT _).mono ?_; rintro e w' ⟨rfl, rfl⟩)
      go_ret2
      exact ⟨⟨q, rfl, fun z h => by cases h; rfl⟩, hbb⟩

end Go.Proofs.Ytjlnokjaabcldae
