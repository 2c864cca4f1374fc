/-
  What fit of the program's maps answers: a number that is too far, too many pieces, or the map itself.
-/
import Derived.Test.YtanbbkoleekmjagPChk
namespace Go.Proofs.Ytanbbkoleekmjag
open Go.RowKit

/-- what is made of a list of pieces -/
def FitIs (out : List (Int × Int × Int)) (n : Int) (r : List (Int × Int × Int)) : Prop :=
  (¬ (∀ q ∈ out, NearP q) ∧ n = 5 ∧ r = []) ∨ ((∀ q ∈ out, NearP q) ∧ 200 < out.length ∧ n = 2 ∧ r = []) ∨ ((∀ q ∈ out, NearP q) ∧ out.length ≤ 200 ∧ n = 0 ∧ r = out)

theorem near_take_succ {m : List (Int × Int × Int)} {k : Nat} (hk : k < m.length) (h : ∀ q ∈ m.take k, NearP q) (h1 : NearP m[k]) : ∀ q ∈ m.take (k + 1), NearP q := by
  intro q hq
  rw [take_succ_get m k hk, List.mem_append, List.mem_singleton] at hq
  rcases hq with hq | rfl
  · exact h q hq
  · exact h1

set_option maxRecDepth 100000 in
set_option maxHeartbeats 2000000 in
theorem fit_any (base : Nat) (v : Value) (out : List (Int × Int × Int)) (w : World) (hown : w.ownsRow base 39 3 v out.length (enc3 out)) (hlen : out.length ≤ 1000) :
    Calls Try.prog 59 #[v] w fun e w' => ∃ n r v', FitIs out n r ∧ e = .returned (.tuple #[v', .int .i64 n]) ∧ w'.ownsRow base 39 3 v' r.length (enc3 r) ∧ Below w.heap.size w w' := by
  obtain ⟨vo, vc, hve, hl⟩ := pcAt_of_owns hown
  subst hve
  have HOW : Hid (w.ownsRow base 39 3 (.slice vo out.length vc) out.length (enc3 out)) := hown
  have HNil : Hid (∀ W : World, W.ownsRow base 39 3 (.slice none 0 0) ([] : List (Int × Int × Int)).length (enc3 [])) := fun W => World.ownsRow_nil _ _ _ _
  clear hown
  go_enter Try.func59, Try.ntmps59
  go_wp2
  go_loopw [8] (fun i wr => ∃ k : Nat, k ≤ out.length ∧ i = .int .i64 k ∧ (∀ q ∈ out.take k, NearP q) ∧ Below w.heap.size w wr) (fun i _ => out.length - (intOf i).toNat)
  case atStart => exact ⟨0, Nat.zero_le _, rfl, fun q hq => by simp at hq, Below.refl _ _⟩
  case round =>
    obtain ⟨k, hk, rfl, hn, hb⟩ := hrel
    have HN : Hid (∀ q ∈ out.take k, NearP q) := hn
    clear hn
    by_cases hlt : k < out.length
    · rcases hl.below hb with h0 | ⟨b, off, rfl, hbw, hc⟩
      · subst h0; simp at hlt
      obtain ⟨c0, c1, c2⟩ := PcAt.get hlt hc
      have hnr := fun W => pnear_any out[k].1 out[k].2.1 out[k].2.2 W
      have HB : Hid (∀ o w1, Below (wr.alloc o).heap.size (wr.alloc o) w1 → Below w.heap.size w w1) := fun o w1 h => ptw (ptw hb (pal _ _)) h
      clear hc hl hb
      by_cases n1 : NearP out[k]
      · have HS : Hid (∀ q ∈ out.take (k + 1), NearP q) := near_take_succ hlt HN.out n1
        rw [(nr3_iff _).2 n1] at hnr
        clear n1
        go_wp2_with fail
        refine (hnr _).mono ?_
        rintro e w1 ⟨rfl, hb1⟩
        have hb' := HB.out _ _ hb1
        clear hb1
        go_wp2
        go_roundw
        case rel => exact ⟨k + 1, by omega, by go_num, HS.out, hb'⟩
        case measure => simp [intOf]; omega
      · have HC : Hid (FitIs out 5 []) := .inl ⟨fun h => n1 (h _ (List.getElem_mem hlt)), rfl, rfl⟩
        rw [show nr3 out[k].1 out[k].2.1 out[k].2.2 = false from by rw [← Bool.not_eq_true, nr3_iff]; exact n1] at hnr
        clear n1
        go_wp2_with fail
        refine (hnr _).mono ?_
        rintro e w1 ⟨rfl, hb1⟩
        have hb' := HB.out _ _ hb1
        clear hb1
        go_wp2
        go_ret2
        exact ⟨_, _, _, HC.out, rfl, HNil.out _, hb'⟩
    · have hkl : k = out.length := by omega
      have hall : ∀ q ∈ out, NearP q := by have := HN.out; rwa [hkl, List.take_length] at this
      have HA : Hid (∀ q ∈ out, NearP q) := hall
      clear hall
      subst hkl
      by_cases h200 : 200 < out.length
      · have HC : Hid (FitIs out 2 []) := .inr (.inl ⟨HA.out, h200, rfl, rfl⟩)
        go_wp2
        go_ret2
        exact ⟨_, _, _, HC.out, rfl, HNil.out _, hb⟩
      · have HC : Hid (FitIs out 0 out) := .inr (.inr ⟨HA.out, by omega, rfl, rfl⟩)
        have HR : Hid (wr.ownsRow base 39 3 (.slice vo out.length vc) out.length (enc3 out)) := ownsRow_below HOW.out hb
        go_wp2
        go_ret2
        exact ⟨_, _, _, HC.out, rfl, HR.out, hb⟩

end Go.Proofs.Ytanbbkoleekmjag
