/-
  What Map and At of the reference answer: what Check and At of the program answer.
-/
import Derived.Test.YtjlnokjaabcldabDoorRHas
import Derived.Test.YtjlnokjaabcldabDoorPChk
namespace Go.Proofs.YtjlnokjaabcldabDoor
open Go.RowKit

set_option maxHeartbeats 1000000 in
theorem RAt_any (ao : Option Addr) (cap : Nat) (m : List (Int × Int × Int)) (t : Int) (w : World) (hl : PcAt w ao m) (hn : m.length ≤ 9223372036854775807) :
    Calls Tryd.prog 23 #[.slice ao m.length cap, .int .i64 t] w fun e w' => e = .returned (.tuple #[.int .i64 ((tel m t).getD 0), .bool (tel m t).isSome]) ∧ w' = w := by
  go_enter Tryd.func23, Tryd.ntmps23
  go_wp2
  go_loop [6] (fun i => ∃ k : Nat, k ≤ m.length ∧ i = .int .i64 k ∧ tel (m.take k) t = none) (fun i => m.length - (intOf i).toNat)
  case atStart => exact ⟨0, Nat.zero_le _, rfl, rfl⟩
  case round =>
    obtain ⟨k, hk, rfl, hh⟩ := hrel
    have HH : Hid (tel (m.take k) t = none) := hh
    clear hh
    by_cases hlt : k < m.length
    · rcases hl with h0 | ⟨b, off, rfl, hbw, hc⟩
      · subst h0; simp at hlt
      obtain ⟨c0, c1, c2⟩ := PcAt.get hlt hc
      clear hc
      by_cases g1 : m[k].1 ≤ t
      · by_cases g2 : t < m[k].2.1
        · have HC : Hid (tel m t = some m[k].2.2) := tel_take_yes hlt HH.out ((inP_iff _ _).2 ⟨g1, g2⟩)
          go_wp2
          go_ret2
          exact ⟨by rw [HC.out]; rfl, rfl⟩
        · have HC : Hid (tel (m.take (k + 1)) t = none) := tel_take_no hlt HH.out (by rw [← Bool.not_eq_true, inP_iff]; omega)
          go_wp2
          go_round
          case rel => exact ⟨k + 1, by omega, by go_num, HC.out⟩
          case measure => simp [intOf]; omega
      · have HC : Hid (tel (m.take (k + 1)) t = none) := tel_take_no hlt HH.out (by rw [← Bool.not_eq_true, inP_iff]; omega)
        go_wp2
        go_round
        case rel => exact ⟨k + 1, by omega, by go_num, HC.out⟩
        case measure => simp [intOf]; omega
    · have hkl : k = m.length := by omega
      subst hkl
      have HC : Hid (tel m t = none) := by have := HH.out; rwa [List.take_length] at this
      go_wp2
      go_ret2
      exact ⟨by rw [HC.out]; rfl, rfl⟩

set_option maxRecDepth 100000 in
set_option maxHeartbeats 4000000 in
theorem RMap_any (ao : Option Addr) (cap : Nat) (m : List (Int × Int × Int)) (w : World) (hl : PcAt w ao m) :
    Calls Tryd.prog 16 #[.slice ao m.length cap] w fun e w' => e = .returned (.int .i64 (mchk m)) ∧ Below w.heap.size w w' := by
  by_cases h2 : 200 < m.length
  · have HC : Hid (mchk m = 2) := mchk_large h2
    go_enter Tryd.func16, Tryd.ntmps16
    go_wp2
    go_ret
    exact ⟨ret_int HC.out.symm, Below.refl _ _⟩
  · have h3 : m.length ≤ 200 := by omega
    go_enter Tryd.func16, Tryd.ntmps16
    go_wp2
    go_loopw [3] (fun i wr => ∃ k : Nat, k ≤ m.length ∧ i = .int .i64 k ∧ MGood m k ∧ Below w.heap.size w wr) (fun i _ => m.length - (intOf i).toNat)
    case atStart => exact ⟨0, Nat.zero_le _, rfl, fun i hi => absurd hi (Nat.not_lt_zero _), Below.refl _ _⟩
    case round =>
      obtain ⟨k, hk, rfl, hn, hb⟩ := hrel
      have HN : Hid (MGood m k) := hn
      clear hn
      by_cases hlt : k < m.length
      · rcases hl.below hb with h0 | ⟨b, off, rfl, hbw, hc⟩
        · subst h0; simp at hlt
        obtain ⟨c0, c1, c2⟩ := PcAt.get hlt hc
        have HG : Hid (m.getD k (0, 0, 0) = m[k]) := getD3 hlt
        have HS : ∀ o, Below w.heap.size w (wr.alloc o) := fun o => hb.alloc hb.size o
        have hNo : ¬ NearP m[k] → mchk m = 5 := fun h => mchk_no (k := k) h3 hlt (by unfold Sound; rw [HG.out]; rintro ⟨h', _, _⟩; exact h h')
        by_cases n0 : nearB m[k].1
        · have y0 := nb_yes n0
          by_cases n1 : nearB m[k].2.1
          · have y1 := nb_yes n1
            by_cases n2 : nearB m[k].2.2
            · have y2 := nb_yes n2
              by_cases g1 : m[k].2.1 ≤ m[k].1
              · have HC : Hid (mchk m = 5) := mchk_no (k := k) h3 hlt (by unfold Sound; rw [HG.out]; rintro ⟨_, h, _⟩; omega)
                clear hc hl n0 n1 n2 hNo
                go_wp2_with (go_at_call 22; refine (near_any _ _).mono ?_; rintro e w' ⟨rfl, rfl⟩)
                go_ret
                exact ⟨ret_int HC.out.symm, HS _⟩
              · by_cases hk0 : k = 0
                · subst hk0
                  simp only [Nat.zero_mul, Nat.add_zero] at c0 c1 c2
                  have HSS : Hid (MGood m (0 + 1)) := mgood_succ HN.out ⟨by rw [HG.out]; exact ⟨n0, n1, n2⟩, by rw [HG.out]; omega, fun h => absurd h (Nat.lt_irrefl _)⟩
                  clear hc hl n0 n1 n2 hNo
                  go_wp2_with (go_at_call 22; refine (near_any _ _).mono ?_; rintro e w' ⟨rfl, rfl⟩)
                  go_quiet (fail)
                  go_wp2
                  go_roundw
                  case rel => exact ⟨0 + 1, by omega, by go_num, HSS.out, below_drewN (HS _) _⟩
                  case measure => simp [intOf]; omega
                · obtain ⟨j, rfl⟩ : ∃ j, k = j + 1 := ⟨k - 1, by omega⟩
                  have hj : j < m.length := by omega
                  obtain ⟨p0, p1, p2⟩ := PcAt.get hj hc
                  have HGj : Hid (m.getD (j + 1 - 1) (0, 0, 0) = m[j]) := by show _ = _; rw [Nat.add_sub_cancel]; exact getD3 hj
                  have hj1 : (0 : Int) ≤ (j : Int) := by omega
                  have hj2 : (j : Int) < (m.length : Int) := by omega
                  have hNF : ¬ Fol m[j] m[j + 1] → mchk m = 5 := fun g2 => mchk_no (k := j + 1) h3 hlt (by unfold Sound; rw [HG.out, HGj.out]; rintro ⟨_, _, h⟩; exact g2 (h (by omega)))
                  have hYF : Fol m[j] m[j + 1] → MGood m (j + 1 + 1) := fun g2 => mgood_succ HN.out ⟨by rw [HG.out]; exact ⟨n0, n1, n2⟩, by rw [HG.out]; omega, fun _ => by rw [HG.out, HGj.out]; exact g2⟩
                  by_cases g2 : m[j + 1].1 < m[j].2.1
                  · have HC : Hid (mchk m = 5) := hNF (by unfold Fol; omega)
                    have d1 : decide (m[j + 1].1 < m[j].2.1) = true := by simpa using g2
                    clear hc hl n0 n1 n2 hNo hNF hYF
                    go_wp2_with (go_at_call 22; refine (near_any _ _).mono ?_; rintro e w' ⟨rfl, rfl⟩)
                    go_quiet (fail)
                    go_wp2
                    go_ret
                    exact ⟨ret_int HC.out.symm, below_drewN (HS _) _⟩
                  · have d1 : decide (m[j + 1].1 < m[j].2.1) = false := by simpa using g2
                    by_cases g3 : m[j].2.1 = m[j + 1].1
                    · have d2 : (m[j].2.1 == m[j + 1].1) = true := by simpa using g3
                      by_cases g4 : m[j].2.2 = m[j + 1].2.2
                      · have HC : Hid (mchk m = 5) := hNF (by unfold Fol; omega)
                        have d3 : (m[j].2.2 == m[j + 1].2.2) = true := by simpa using g4
                        clear hc hl n0 n1 n2 hNo hNF hYF g3 g4
                        go_wp2_with (go_at_call 22; refine (near_any _ _).mono ?_; rintro e w' ⟨rfl, rfl⟩)
                        go_quiet (fail)
                        go_wp2
                        go_ret
                        exact ⟨ret_int HC.out.symm, below_drewN (HS _) _⟩
                      · have HSS : Hid (MGood m (j + 1 + 1)) := hYF (by unfold Fol; exact .inr ⟨g3, g4⟩)
                        have d3 : (m[j].2.2 == m[j + 1].2.2) = false := by simpa using g4
                        clear hc hl n0 n1 n2 hNo hNF hYF g3 g4
                        go_wp2_with (go_at_call 22; refine (near_any _ _).mono ?_; rintro e w' ⟨rfl, rfl⟩)
                        go_quiet (fail)
                        go_wp2
                        go_roundw
                        case rel => exact ⟨j + 1 + 1, by omega, by go_num, HSS.out, below_drewN (HS _) _⟩
                        case measure => simp [intOf]; omega
                    · have HSS : Hid (MGood m (j + 1 + 1)) := hYF (by unfold Fol; omega)
                      have d2 : (m[j].2.1 == m[j + 1].1) = false := by simpa using g3
                      clear hc hl n0 n1 n2 hNo hNF hYF g3
                      go_wp2_with (go_at_call 22; refine (near_any _ _).mono ?_; rintro e w' ⟨rfl, rfl⟩)
                      go_quiet (fail)
                      go_wp2
                      go_roundw
                      case rel => exact ⟨j + 1 + 1, by omega, by go_num, HSS.out, below_drewN (HS _) _⟩
                      case measure => simp [intOf]; omega
            · have y2 := nb_no n2
              have HC : Hid (mchk m = 5) := hNo (fun h => n2 h.2.2)
              clear hc hl n0 n1 n2 hNo
              go_wp2_with (go_at_call 22; refine (near_any _ _).mono ?_; rintro e w' ⟨rfl, rfl⟩)
              go_ret
              exact ⟨ret_int HC.out.symm, HS _⟩
          · have y1 := nb_no n1
            have HC : Hid (mchk m = 5) := hNo (fun h => n1 h.2.1)
            clear hc hl n0 n1 hNo
            go_wp2_with (go_at_call 22; refine (near_any _ _).mono ?_; rintro e w' ⟨rfl, rfl⟩)
            go_ret
            exact ⟨ret_int HC.out.symm, HS _⟩
        · have y0 := nb_no n0
          have HC : Hid (mchk m = 5) := hNo (fun h => n0 h.1)
          clear hc hl n0 hNo
          go_wp2_with (go_at_call 22; refine (near_any _ _).mono ?_; rintro e w' ⟨rfl, rfl⟩)
          go_ret
          exact ⟨ret_int HC.out.symm, HS _⟩
      · have hkl : k = m.length := by omega
        subst hkl
        have HC : Hid (mchk m = 0) := mchk_ok h3 HN.out
        go_wp2
        go_ret
        exact ⟨ret_int HC.out.symm, hb⟩

end Go.Proofs.YtjlnokjaabcldabDoor
