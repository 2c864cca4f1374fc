/-
  What Has and Set of the reference answer: what Has and Check of the program answer.
-/
import Derived.Test.YtjlnokjaabcldaaChk
import Derived.Test.YtjlnokjaabcldaaHas
import Derived.Deep.RegionWith
namespace Go.Proofs.Ytjlnokjaabcldaa
open Go.RowKit

set_option maxHeartbeats 1000000 in
theorem RHas_any (ao : Option Addr) (cap : Nat) (l : List (Int × Int)) (t : Int) (w : World) (hl : IvAt w ao l) (hn : l.length ≤ 9223372036854775807) :
    Calls Try.prog 14 #[.slice ao l.length cap, .int .i64 t] w fun e w' => e = .returned (.bool (has l t)) ∧ w' = w := by
  go_enter Try.func14, Try.ntmps14
  go_wp2
  go_loop [5] (fun i => ∃ k : Nat, k ≤ l.length ∧ i = .int .i64 k ∧ has (l.take k) t = false) (fun i => l.length - (intOf i).toNat)
  case atStart => exact ⟨0, Nat.zero_le _, rfl, rfl⟩
  case round =>
    obtain ⟨k, hk, rfl, hh⟩ := hrel
    have HH : Hid (has (l.take k) t = false) := hh
    clear hh
    by_cases hlt : k < l.length
    · rcases hl with h0 | ⟨b, off, rfl, hbw, hc⟩
      · subst h0; simp at hlt
      obtain ⟨c0, c1⟩ := hc k hlt
      clear hc
      by_cases g1 : l[k].1 ≤ t
      · by_cases g2 : t < l[k].2
        · have HC : Hid (has l t = true) := has_take_yes hlt g1 g2
          go_wp2
          go_ret
          exact ⟨ret_bool HC.out.symm, rfl⟩
        · have HC : Hid (has (l.take (k + 1)) t = false) := has_take_no hlt HH.out (by omega)
          go_wp2
          go_round
          case rel => exact ⟨k + 1, by omega, by go_num, HC.out⟩
          case measure => simp [intOf]; omega
      · have HC : Hid (has (l.take (k + 1)) t = false) := has_take_no hlt HH.out (by omega)
        go_wp2
        go_round
        case rel => exact ⟨k + 1, by omega, by go_num, HC.out⟩
        case measure => simp [intOf]; omega
    · have hkl : k = l.length := by omega
      subst hkl
      have HC : Hid (has l t = false) := by have := HH.out; rwa [List.take_length] at this
      go_wp2
      go_ret
      exact ⟨ret_bool HC.out.symm, rfl⟩

theorem near_yes (x : Int) (w : World) (h : nearB x) : Calls Try.prog 32 #[.int .i64 x] w fun e w' => e = .returned (.bool true) ∧ w' = w := by
  unfold nearB at h
  obtain ⟨h1, h2⟩ := h
  go_enter Try.func32, Try.ntmps32
  go_wp2
  go_ret
  exact ⟨rfl, rfl⟩
theorem near_no (x : Int) (w : World) (h : ¬ nearB x) : Calls Try.prog 32 #[.int .i64 x] w fun e w' => e = .returned (.bool false) ∧ w' = w := by
  unfold nearB at h
  by_cases h1 : -1000000000 ≤ x
  · have h2 : ¬ x ≤ 1000000000 := fun h' => h ⟨h1, h'⟩
    clear h
    go_enter Try.func32, Try.ntmps32
    go_wp2
    go_ret
    exact ⟨rfl, rfl⟩
  · clear h
    go_enter Try.func32, Try.ntmps32
    go_wp2
    go_ret
    exact ⟨rfl, rfl⟩

/-- is a number near? -/
def nb (x : Int) : Bool := decide (-1000000000 ≤ x) && decide (x ≤ 1000000000)
theorem nb_yes {x : Int} (h : nearB x) : nb x = true := by unfold nearB at h; simp [nb]; omega
theorem nb_no {x : Int} (h : ¬ nearB x) : nb x = false := by
  unfold nearB at h
  rw [Bool.eq_false_iff]
  intro hb
  simp [nb] at hb
  exact h hb
theorem near_any (x : Int) (w : World) : Calls Try.prog 32 #[.int .i64 x] w fun e w' => e = .returned (.bool (nb x)) ∧ w' = w := by
  by_cases h : nearB x
  · rw [nb_yes h]; exact near_yes x w h
  · rw [nb_no h]; exact near_no x w h

theorem chk_far_at {l : List (Int × Int)} {k : Nat} (h : l.length ≤ 200) (hk : k < l.length) (hn : ¬ (nearB l[k].1 ∧ nearB l[k].2)) : chk l = 5 :=
  chk_far h fun hh => hn (by have := hh k hk; rwa [List.getD_eq_getElem?_getD, List.getElem?_eq_getElem hk] at this)

set_option maxRecDepth 100000 in
set_option maxHeartbeats 4000000 in
theorem RSet_any (ao : Option Addr) (cap : Nat) (l : List (Int × Int)) (w : World) (hl : IvAt w ao l) :
    Calls Try.prog 7 #[.slice ao l.length cap] w fun e w' => e = .returned (.int .i64 (chk l)) ∧ Below w.heap.size w w' := by
  by_cases h2 : 200 < l.length
  · have HC : Hid (chk l = 2) := chk_large h2
    go_enter Try.func7, Try.ntmps7
    go_wp2
    go_ret
    exact ⟨ret_int HC.out.symm, Below.refl _ _⟩
  · have h3 : l.length ≤ 200 := by omega
    go_enter Try.func7, Try.ntmps7
    go_wp2
    go_loopw [3] (fun i wr => ∃ k : Nat, k ≤ l.length ∧ i = .int .i64 k ∧ Near l k ∧ Form l k ∧ Below w.heap.size w wr) (fun i _ => l.length - (intOf i).toNat)
    case atStart => exact ⟨0, Nat.zero_le _, rfl, fun i hi => absurd hi (Nat.not_lt_zero _), fun i hi => absurd hi (Nat.not_lt_zero _), Below.refl _ _⟩
    case round =>
      obtain ⟨k, hk, rfl, hn, hf, hb⟩ := hrel
      have HN : Hid (Near l k) := hn
      have HF : Hid (Form l k) := hf
      by_cases hlt : k < l.length
      · rcases hl.below hb with h0 | ⟨b, off, rfl, hbw, hc⟩
        · subst h0; simp at hlt
        obtain ⟨c0, c1⟩ := hc k hlt
        have hg : l.getD k (0, 0) = l[k] := by simp [List.getD_eq_getElem?_getD, List.getElem?_eq_getElem hlt]
        rw [hg] at c0 c1
        have HG : Hid (l.getD k (0, 0) = l[k]) := hg
        clear hf hn hl hg
        by_cases n1 : nearB l[k].1
        · have y1 := nb_yes n1
          by_cases n2 : nearB l[k].2
          · have y2 := nb_yes n2
            have HNN : Hid (Near l (k + 1)) := near_succ HN.out (by rw [HG.out]; exact n1) (by rw [HG.out]; exact n2)
            clear n1 n2
            by_cases g1 : l[k].2 ≤ l[k].1
            · have HC : Hid (chk l = 5) := chk_no (k := k) h3 hlt (by rw [HG.out]; omega)
              clear hc
              go_wp2
              go_quiet ((go_at_call 32; exact Calls.quiet_of_same (near_any _ _)))
              go_wp2
              go_ret
              exact ⟨ret_int HC.out.symm, below_drewN hb _⟩
            · have d1 : decide (l[k].2 ≤ l[k].1) = false := by simpa using g1
              by_cases hk0 : k = 0
              · subst hk0
                have HG' : Hid (Form l (0 + 1)) := form_succ HF.out (by rw [HG.out]; omega) (fun h => absurd h (Nat.lt_irrefl _))
                simp only [Nat.zero_mul, Nat.add_zero] at c0 c1
                clear hc
                go_wp2
                go_quiet ((go_at_call 32; exact Calls.quiet_of_same (near_any _ _)))
                go_wp2
                go_roundw
                case rel => exact ⟨0 + 1, by omega, by go_num, HNN.out, HG'.out, below_drewN hb _⟩
                case measure => simp [intOf]; omega
              · obtain ⟨m, rfl⟩ : ∃ m, k = m + 1 := ⟨k - 1, by omega⟩
                have cp := (hc m (by omega)).2
                have hm : m < l.length := by omega
                have hgm : l.getD m (0, 0) = l[m] := by simp [List.getD_eq_getElem?_getD, List.getElem?_eq_getElem hm]
                rw [hgm] at cp
                by_cases g2 : l[m + 1].1 ≤ l[m].2
                · have HC : Hid (chk l = 5) := chk_no (k := m + 1) h3 hlt (by rw [HG.out, Nat.add_sub_cancel, hgm]; omega)
                  clear hc hgm
                  go_wp2
                  go_quiet ((go_at_call 32; exact Calls.quiet_of_same (near_any _ _)))
                  go_wp2
                  go_ret
                  exact ⟨ret_int HC.out.symm, below_drewN hb _⟩
                · have HG' : Hid (Form l (m + 1 + 1)) := form_succ HF.out (by rw [HG.out]; omega) (fun h => by rw [HG.out, Nat.add_sub_cancel, hgm]; omega)
                  have d2 : decide (l[m + 1].1 ≤ l[m].2) = false := by simpa using g2
                  clear hc hgm
                  go_wp2
                  go_quiet ((go_at_call 32; exact Calls.quiet_of_same (near_any _ _)))
                  go_wp2
                  go_roundw
                  case rel => exact ⟨m + 1 + 1, by omega, by go_num, HNN.out, HG'.out, below_drewN hb _⟩
                  case measure => simp [intOf]; omega
          · have HC : Hid (chk l = 5) := chk_far_at h3 hlt (fun h => n2 h.2)
            have y2 := nb_no n2
            clear n1 n2 hc
            go_wp2
            go_quiet ((go_at_call 32; exact Calls.quiet_of_same (near_any _ _)))
            go_wp2
            go_ret
            exact ⟨ret_int HC.out.symm, below_drewN hb _⟩
        · have HC : Hid (chk l = 5) := chk_far_at h3 hlt (fun h => n1 h.1)
          have y1 := nb_no n1
          clear n1 hc
          go_wp2
          go_quiet ((go_at_call 32; exact Calls.quiet_of_same (near_any _ _)))
          go_wp2
          go_ret
          exact ⟨ret_int HC.out.symm, below_drewN hb _⟩
      · have hkl : k = l.length := by omega
        subst hkl
        have HC : Hid (chk l = 0) := chk_ok h3 HN.out HF.out
        clear hf hn
        go_wp2
        go_ret
        exact ⟨ret_int HC.out.symm, hb⟩

end Go.Proofs.Ytjlnokjaabcldaa
