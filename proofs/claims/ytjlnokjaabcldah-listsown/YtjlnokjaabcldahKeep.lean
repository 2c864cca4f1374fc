/-
  What made and got of the laws answer; how a list of intervals that comes in is read.
-/
import Derived.Test.YtjlnokjaabcldahNorm
import Derived.Test.YtjlnokjaabcldahOps
import Derived.Test.YtjlnokjaabcldahHas
namespace Go.Proofs.Ytjlnokjaabcldah
open Go.RowKit

/-- what made comes to -/
def MadeIs (x A : List (Int × Int)) : Prop := (cbs (x.take 60) ≠ 0 ∧ A = []) ∨ (cbs (x.take 60) = 0 ∧ NormIs (x.take 60) A)

theorem made_canon {x A : List (Int × Int)} (h : MadeIs x A) : Canon A ∧ (∀ z ∈ flat A, nearB z) ∧ A.length ≤ 60 := by
  rcases h with ⟨_, rfl⟩ | ⟨_, h⟩
  · exact ⟨List.Pairwise.nil, by simp [flat], by simp⟩
  · exact ⟨h.canon, h.near, by have := h.len; have := List.length_take_le 60 x; omega⟩

theorem ivAt_take {w : World} {ao : Option Addr} {l : List (Int × Int)} (h : IvAt w ao l) (n : Nat) : IvAt w ao (l.take n) := by
  rcases h with h | ⟨b, off, rfl, hb, hc⟩
  · subst h; exact .inl (by simp)
  · refine .inr ⟨b, off, rfl, hb, fun j hj => ?_⟩
    rw [List.length_take] at hj
    have := hc j (by omega)
    rw [List.getD_eq_getElem?_getD, List.getElem?_take_of_lt (by omega), ← List.getD_eq_getElem?_getD]
    exact this

theorem take60 (x : List (Int × Int)) : (min 60 (x.length : Int)).toNat = (x.take 60).length := by rw [List.length_take]; omega

set_option maxHeartbeats 1000000 in
theorem made_any (ao : Option Addr) (cap : Nat) (x : List (Int × Int)) (w : World) (hl : IvAt w ao x) (_hc : x.length ≤ cap) (_hm : cap ≤ 9223372036854775807) :
    Calls Try.prog 6 #[.slice ao x.length cap] w fun e w' => ∃ ao' cap' A, e = .returned (.slice ao' A.length cap') ∧ MadeIs x A ∧ IvAt w' ao' A ∧ Below w.heap.size w w' := by
  have hN := Norm_any ao cap (x.take 60) w (ivAt_take hl 60)
  have e60 := take60 x
  have H60 : Hid ((min 60 (x.length : Int)).toNat = (x.take 60).length) := e60
  clear e60
  go_enter Try.func6, Try.ntmps6
  go_wp2_with fail
  rw [H60.out]
  refine hN.mono ?_
  rintro e w1 ⟨n, r, hC, zo, zc, rfl, hz, hb⟩
  have hM : MadeIs x r := by
    rcases hC with ⟨h1, _, rfl⟩ | ⟨h1, _, h2⟩
    · exact .inl ⟨h1, rfl⟩
    · exact .inr ⟨h1, h2⟩
  have HM : Hid (MadeIs x r) := hM
  clear hM hC hN
  go_wp2
  go_ret
  exact ⟨_, _, _, rfl, HM.out, hz, hb⟩

/-- a set of the laws: sorted, near, of at most n intervals -/
structure Good (n : Nat) (A : List (Int × Int)) : Prop where
  canon : Canon A
  near : ∀ z ∈ flat A, nearB z
  len : A.length ≤ n

theorem Good.chk {n : Nat} {A : List (Int × Int)} (h : Good n A) (hn : n ≤ 200) : chk A = 0 := chk_of_canon h.canon h.near (by have := h.len; omega)
theorem made_good {x A : List (Int × Int)} (h : MadeIs x A) : Good 60 A := ⟨(made_canon h).1, (made_canon h).2.1, (made_canon h).2.2⟩

/-- two sets put together, few enough: the set is told -/
theorem comb_ok {want : Bool → Bool → Bool} {a b : List (Int × Int)} {na nb : Nat} {n : Int} {r : List (Int × Int)} (ha : Good na a) (hb : Good nb b) (h1 : na ≤ 200) (h2 : nb ≤ 200) (h3 : na + nb ≤ 200) (h : CombIs want a b n r) : n = 0 ∧ SetIs want a b r ∧ Good (na + nb) r := by
  rcases h with ⟨h, _⟩ | ⟨_, h, _⟩ | ⟨_, _, s, hs, h⟩
  · exact absurd (ha.chk h1) h
  · exact absurd (hb.chk h2) h
  · have hl := hs.len
    have := ha.len
    have := hb.len
    rcases h with ⟨h, _⟩ | ⟨_, hn, hr⟩
    · omega
    · subst hr
      exact ⟨hn, hs, hs.canon, hs.near, by omega⟩

/-- one list of an interval in a new block -/
theorem ivAt_one (w : World) (B : Nat) (t : TypeId) (p : Int × Int) (hB : B = w.heap.size) : IvAt (w.alloc (.cells #[.int .i64 p.1, .int .i64 p.2] t)) (some ⟨B, 0, none⟩) [p] := by
  subst hB
  refine .inr ⟨w.heap.size, 0, rfl, by simp, fun j hj => ?_⟩
  have : j = 0 := by simpa using hj
  subst this
  exact ⟨by simp, by simp⟩

end Go.Proofs.Ytjlnokjaabcldah
