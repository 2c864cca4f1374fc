/-
  What Norm of the reference answers: what Norm of the program answers.
-/
import Derived.Test.YtjlnokjaabcldaaRSets
namespace Go.Proofs.Ytjlnokjaabcldaa
open Go.RowKit

theorem bt' {a b c : World} (h1 : Below a.heap.size a b) (h2 : Below b.heap.size b c) : Below a.heap.size a c := h1.trans (h2.mono h1.size)
theorem ba' (w : World) (o : Obj) : Below w.heap.size w (w.alloc o) := (Below.refl _ _).alloc (Nat.le_refl _) o

/-- what Norm of the reference comes to -/
def RNormRes (l : List (Int × Int)) (n : Int) (r : List (Int × Int)) : Prop := (cbs l ≠ 0 ∧ n = cbs l ∧ r = []) ∨ (cbs l = 0 ∧ n = 0 ∧ Canon r ∧ ∀ t, has r t = has l t)

theorem norm1_any (B : Nat) (ao : Option Addr) (ca : Nat) (l : List (Int × Int)) (t : Int) (w : World) (hl : IvAt w ao l) (h3 : l.length ≤ 200) (c1 : w.cell? ⟨B, 0, none⟩ = some (.slice ao l.length ca)) :
    Calls Try.prog 38 #[.int .i64 t, .pointer (some ⟨B, 0, none⟩)] w fun e w' => e = .returned (.bool (has l t)) ∧ Below w.heap.size w w' := by
  have hH := RHas_any ao ca l t w hl (by omega)
  generalize has l t = q at hH ⊢
  clear hl
  go_enter Try.func38, Try.ntmps38
  go_wp2_with (go_at_call 14; refine hH.mono ?_; rintro e w' ⟨rfl, rfl⟩)
  go_ret
  exact ⟨rfl, Below.refl _ _⟩

set_option maxRecDepth 100000 in
set_option maxHeartbeats 4000000 in
theorem RNorm_any (ao : Option Addr) (ca : Nat) (l : List (Int × Int)) (w : World) (hl : IvAt w ao l) :
    Calls Try.prog 9 #[.slice ao l.length ca] w fun e w' => ∃ n r, RNormRes l n r ∧ Told w w' e n r := by
  by_cases h2 : 200 < l.length
  · have HC : Hid (RNormRes l 2 []) := .inl ⟨by rw [cbs_large h2]; decide, (cbs_large h2).symm, rfl⟩
    go_enter Try.func9, Try.ntmps9
    go_wp2
    go_ret2
    exact ⟨_, _, HC.out, _, _, rfl, .inl rfl, ba' _ _⟩
  · have h3 : l.length ≤ 200 := by omega
    have hmf : ∀ (fn : Fn) (first cap : Array Value) (w : World), (Instr.makeFunc fn first cap).run Try.prog w = .ok (.func fn first cap) w := fun _ _ _ _ => rfl
    have HBX : Hid (∀ W, Below (w.alloc (.cells #[.slice ao l.length ca] 22)).heap.size (w.alloc (.cells #[.slice ao l.length ca] 22)) W → W.cell? ⟨w.heap.size, 0, none⟩ = some (.slice ao l.length ca) ∧ Below w.heap.size w W) := by
      intro W h
      refine ⟨(h.cell (p := ⟨w.heap.size, 0, none⟩) (by simp)).trans ?_, bt' (ba' _ _) h⟩
      rw [World.cell?_alloc_at _ _ _ _ rfl]; rfl
    go_enter Try.func9, Try.ntmps9
    go_wp2
    go_loopw [4] (fun i wr => ∃ k : Nat, k ≤ l.length ∧ i = .int .i64 k ∧ Near l k ∧ Below (w.alloc (.cells #[.slice ao l.length ca] 22)).heap.size (w.alloc (.cells #[.slice ao l.length ca] 22)) wr) (fun i _ => l.length - (intOf i).toNat)
    case atStart => exact ⟨0, Nat.zero_le _, rfl, fun i hi => absurd hi (Nat.not_lt_zero _), Below.refl _ _⟩
    case round =>
      obtain ⟨k, hk, rfl, hn, hb⟩ := hrel
      have HN : Hid (Near l k) := hn
      obtain ⟨cbx, hbw⟩ := HBX.out wr hb
      clear hn
      by_cases hlt : k < l.length
      · rcases hl.below hbw with h0 | ⟨b, off, rfl, hbr, hc⟩
        · subst h0; simp at hlt
        obtain ⟨c0, c1⟩ := hc k hlt
        have hg : l.getD k (0, 0) = l[k] := by simp [List.getD_eq_getElem?_getD, List.getElem?_eq_getElem hlt]
        rw [hg] at c0 c1
        have HG : Hid (l.getD k (0, 0) = l[k]) := hg
        clear hc hg hl
        by_cases n1 : nearB l[k].1
        · have y1 := nb_yes n1
          by_cases n2 : nearB l[k].2
          · have y2 := nb_yes n2
            have HNN : Hid (Near l (k + 1)) := near_succ HN.out (by rw [HG.out]; exact n1) (by rw [HG.out]; exact n2)
            clear n1 n2
            go_wp2_with (go_at_call 32; refine (near_any _ _).mono ?_; rintro e w' ⟨rfl, rfl⟩)
            go_roundw
            case rel => exact ⟨k + 1, by omega, by go_num, HNN.out, by assumption⟩
            case measure => simp [intOf]; omega
          · have y2 := nb_no n2
            have hc5 : cbs l = 5 := cbs_no (k := k) h3 hlt (by rw [HG.out]; exact fun h => n2 h.2)
            have HC : Hid (RNormRes l 5 []) := .inl ⟨by rw [hc5]; decide, hc5.symm, rfl⟩
            clear n1 n2 hc5
            go_wp2_with (go_at_call 32; refine (near_any _ _).mono ?_; rintro e w' ⟨rfl, rfl⟩)
            go_ret2
            exact ⟨_, _, HC.out, _, _, rfl, .inl rfl, by assumption⟩
        · have y1 := nb_no n1
          have hc5 : cbs l = 5 := cbs_no (k := k) h3 hlt (by rw [HG.out]; exact fun h => n1 h.1)
          have HC : Hid (RNormRes l 5 []) := .inl ⟨by rw [hc5]; decide, hc5.symm, rfl⟩
          clear n1 hc5
          go_wp2_with (go_at_call 32; refine (near_any _ _).mono ?_; rintro e w' ⟨rfl, rfl⟩)
          go_ret2
          exact ⟨_, _, HC.out, _, _, rfl, .inl rfl, by assumption⟩
      · have hkl : k = l.length := by omega
        have HE : Hid (cbs l = 0) := by
          have := HN.out
          rw [hkl] at this
          exact cbs_ok h3 this
        have hlw := hl.below hbw
        have hE := ends_any ao ca l wr hlw h3
        clear hkl
        go_wp2_with fail
        refine hE.mono ?_
        rintro e w3 ⟨v, rfl, hown, _, hb3⟩
        have hl3 := hlw.below hb3
        have hbb3 := bt' hb hb3
        have hp : ∀ t wq, Below w3.heap.size w3 wq → Calls Try.prog 38 (#[.int .i64 t] ++ #[.pointer (some ⟨w.heap.size, 0, none⟩)]) wq fun e w' => e = .returned (.bool (has l t)) ∧ Below wq.heap.size wq w' := fun t wq hq =>
          norm1_any w.heap.size ao ca l t wq (hl3.below hq) h3 (HBX.out wq (bt' hbb3 hq)).1
        have hT := those_own (A := flat l) 38 #[.pointer (some ⟨w.heap.size, 0, none⟩)] (has l) (enters_of Try.func38 (by kernel_rfl) rfl) w3 hp (by rw [flat_length]; exact hown) (by rw [flat_length]; omega)
        clear hown hE hp
        go_wp2_with fail
        refine hT.mono ?_
        rintro e w4 ⟨ro, rc, S, out, rfl, hO, hTh, hI, hb4⟩
        have HC : Hid (RNormRes l 0 out) := .inr ⟨HE.out, rfl, hTh.canon, fun t => by rw [hTh.pts, seg_turns hO.inc (turns_one hO.mem)]⟩
        have hbF := bt' (HBX.out w3 hbb3).2 hb4
        clear hO hTh hb4 hT
        go_wp2
        go_ret2
        exact ⟨_, _, HC.out, _, _, rfl, hI, hbF⟩

end Go.Proofs.Ytjlnokjaabcldaa
