/-
  The walk of the law IvlSays: it returns true, and nothing that was there is changed.
-/
import Derived.Test.YtianoalbcaphiaaRNorm
import Derived.Test.YtianoalbcaphiaaNorm
import Derived.Test.YtianoalbcaphiaaEq
namespace Go.Proofs.Ytianoalbcaphiaa
open Go.RowKit

theorem hide {p : Prop} (h : p) : Hid p := h
theorem unhide {p : Prop} (h : Hid p) : p := h

theorem norm_ref {l r r' : List (Int × Int)} {n n' : Int} (h : NormRes l n r) (h' : RNormRes l n' r') : n = n' ∧ r = r' := by
  rcases h with ⟨h1, h2, h3⟩ | ⟨h1, h2, h3⟩
  · rcases h' with ⟨_, g2, g3⟩ | ⟨g1, _⟩
    · exact ⟨h2.trans g2.symm, h3.trans g3.symm⟩
    · exact absurd g1 h1
  · rcases h' with ⟨g1, _⟩ | ⟨_, g2, g3, g4⟩
    · exact absurd h1 g1
    · exact ⟨h2.trans g2.symm, canon_unique h3.canon g3 fun t => by rw [h3.pts, g4]⟩
theorem norm_len {l r : List (Int × Int)} {n : Int} (h : NormRes l n r) : r.length ≤ 200 := by
  rcases h with ⟨_, _, rfl⟩ | ⟨h1, _, h3⟩
  · simp
  · have := h3.len
    rcases cbs_cases l with ⟨e, _⟩ | ⟨e, _, _⟩ | ⟨_, h, _⟩
    · omega
    · omega
    · omega

set_option maxRecDepth 100000 in
set_option maxHeartbeats 8000000 in
theorem ivlSays_walk (ao : Option Addr) (ca : Nat) (l : List (Int × Int)) (t : Int) (w : World) (hl : IvAt w ao l) (hm : l.length ≤ 9223372036854775807) :
    Calls Try.prog 3 #[.slice ao l.length ca, .int .i64 t] w fun e w' => e = .returned (.bool true) ∧ Below w.heap.size w w' := by
  have HL : Hid (IvAt w ao l) := hl
  clear hl
  have h1 := fun W (h : Below w.heap.size w W) => RSet_any ao ca l W (HL.out.below h)
  have h2 := fun W (h : Below w.heap.size w W) => Size_any ao ca l W (HL.out.below h)
  have h3 := fun W (h : Below w.heap.size w W) => check_any ao ca l W (HL.out.below h)
  have h4 := fun W (h : Below w.heap.size w W) => Has_any ao ca l t W (HL.out.below h) hm
  have h5 := fun W (h : Below w.heap.size w W) => RHas_any ao ca l t W (HL.out.below h) hm
  generalize has l t = q at h4 h5
  rcases chk_cases l with e1 | e1 | ⟨e1, ll, nl, fl⟩
  · simp only [e1] at h1 h2 h3
    simp only [show ¬ ((2 : Int) = 0) from by decide, if_false] at h2
    clear e1
    have H1 := hide h1
    have H2 := hide h2
    have H3 := hide h3
    have H4 := hide h4
    have H5 := hide h5
    clear h1 h2 h3 h4 h5
    go_enter Try.func3, Try.ntmps3
    go_wp2_with fail
    refine (unhide H1 _ (Below.refl _ _)).mono ?_
    rintro e w1 ⟨rfl, g1⟩
    go_wp2_with fail
    refine (Norm_any ao ca l _ (HL.out.below g1)).mono ?_
    rintro e w2 ⟨n, r, hN, ro, rc, rfl, hr, hb2⟩
    have g2 := bt' g1 hb2
    have HNR : Hid (NormRes l n r) := hN
    have hrl := norm_len hN
    clear hN g1 hb2
    go_wp2_with fail
    refine (RNorm_any ao ca l _ (HL.out.below g2)).mono ?_
    rintro e w3 ⟨n', r', hN', so, sc, rfl, hs, hb3⟩
    obtain ⟨rfl, rfl⟩ := norm_ref HNR.out hN'
    have g3 := bt' g2 hb3
    have hr3 := hr.below hb3
    clear hN' HNR hr g2 hb3
    go_wp2_with fail
    refine (unhide H2 _ g3).mono ?_
    rintro e w4 ⟨rfl, hb4⟩
    have g4 := bt' g3 hb4
    have HR4 : Hid (IvAt w4 ro r ∧ IvAt w4 so r) := ⟨hr3.below hb4, hs.below hb4⟩
    clear g3 hb4 hr3 hs
    have hmm : (l.length : Int) ≤ 9223372036854775807 := by omega
    go_wp2_with fail
    go_loopw [12, 34] (fun s i wr => ∃ k : Nat, k ≤ l.length ∧ i = .int .i64 k ∧ (∃ z, s = .int .i64 z) ∧ Below w4.heap.size w4 wr) (fun _ i _ => l.length - (intOf i).toNat)
    case atStart => exact ⟨0, Nat.zero_le _, rfl, ⟨_, rfl⟩, Below.refl _ _⟩
    case round =>
      obtain ⟨k, hk, rfl, ⟨z, rfl⟩, hb⟩ := hrel
      have gr := bt' g4 hb
      by_cases hlt : k < l.length
      · rcases HL.out.below gr with h0 | ⟨b, off, rfl, hbw, hc⟩
        · subst h0; simp at hlt
        obtain ⟨c0, c1⟩ := hc k hlt
        have HS : ∀ o, Below w4.heap.size w4 (wr.alloc o) := fun o => hb.alloc hb.size o
        clear hc
        go_wp2
        go_roundw
        case rel => exact ⟨k + 1, by omega, by go_num, ⟨_, rfl⟩, HS _⟩
        case measure => simp [intOf]; omega
      · have hkl : k = l.length := by omega
        have H6 := unhide H3 wr gr
        go_wp2_with fail
        refine H6.mono ?_
        rintro e w6 ⟨rfl, hb6⟩
        have g6 := bt' gr hb6
        have hR6 : IvAt w6 ro r ∧ IvAt w6 so r := ⟨HR4.out.1.below (bt' hb hb6), HR4.out.2.below (bt' hb hb6)⟩
        clear gr hb6 H6 hb
        go_wp2_with fail
        refine (Equal_any ro so rc sc r r _ hR6.1 hR6.2 (by omega)).mono ?_
        rintro e w7 ⟨rfl, hb7⟩
        rw [show decide (r = r) = true from by simp]
        have g7 := bt' g6 hb7
        clear g6 hb7 hR6
        go_wp2_with fail
        refine (unhide H4 _ g7).mono ?_
        rintro e w8 ⟨rfl, hb8⟩
        have g8 := bt' g7 hb8
        clear g7 hb8
        go_wp2_with fail
        refine (unhide H5 _ g8).mono ?_
        rintro e w9 ⟨rfl, rfl⟩
        cases q
        all_goals
          go_wp2
          go_ret
          exact ⟨rfl, g8⟩
  · simp only [e1] at h1 h2 h3
    simp only [show ¬ ((5 : Int) = 0) from by decide, if_false] at h2
    clear e1
    have H1 := hide h1
    have H2 := hide h2
    have H3 := hide h3
    have H4 := hide h4
    have H5 := hide h5
    clear h1 h2 h3 h4 h5
    go_enter Try.func3, Try.ntmps3
    go_wp2_with fail
    refine (unhide H1 _ (Below.refl _ _)).mono ?_
    rintro e w1 ⟨rfl, g1⟩
    go_wp2_with fail
    refine (Norm_any ao ca l _ (HL.out.below g1)).mono ?_
    rintro e w2 ⟨n, r, hN, ro, rc, rfl, hr, hb2⟩
    have g2 := bt' g1 hb2
    have HNR : Hid (NormRes l n r) := hN
    have hrl := norm_len hN
    clear hN g1 hb2
    go_wp2_with fail
    refine (RNorm_any ao ca l _ (HL.out.below g2)).mono ?_
    rintro e w3 ⟨n', r', hN', so, sc, rfl, hs, hb3⟩
    obtain ⟨rfl, rfl⟩ := norm_ref HNR.out hN'
    have g3 := bt' g2 hb3
    have hr3 := hr.below hb3
    clear hN' HNR hr g2 hb3
    go_wp2_with fail
    refine (unhide H2 _ g3).mono ?_
    rintro e w4 ⟨rfl, hb4⟩
    have g4 := bt' g3 hb4
    have HR4 : Hid (IvAt w4 ro r ∧ IvAt w4 so r) := ⟨hr3.below hb4, hs.below hb4⟩
    clear g3 hb4 hr3 hs
    have hmm : (l.length : Int) ≤ 9223372036854775807 := by omega
    go_wp2_with fail
    go_loopw [12, 34] (fun s i wr => ∃ k : Nat, k ≤ l.length ∧ i = .int .i64 k ∧ (∃ z, s = .int .i64 z) ∧ Below w4.heap.size w4 wr) (fun _ i _ => l.length - (intOf i).toNat)
    case atStart => exact ⟨0, Nat.zero_le _, rfl, ⟨_, rfl⟩, Below.refl _ _⟩
    case round =>
      obtain ⟨k, hk, rfl, ⟨z, rfl⟩, hb⟩ := hrel
      have gr := bt' g4 hb
      by_cases hlt : k < l.length
      · rcases HL.out.below gr with h0 | ⟨b, off, rfl, hbw, hc⟩
        · subst h0; simp at hlt
        obtain ⟨c0, c1⟩ := hc k hlt
        have HS : ∀ o, Below w4.heap.size w4 (wr.alloc o) := fun o => hb.alloc hb.size o
        clear hc
        go_wp2
        go_roundw
        case rel => exact ⟨k + 1, by omega, by go_num, ⟨_, rfl⟩, HS _⟩
        case measure => simp [intOf]; omega
      · have hkl : k = l.length := by omega
        have H6 := unhide H3 wr gr
        go_wp2_with fail
        refine H6.mono ?_
        rintro e w6 ⟨rfl, hb6⟩
        have g6 := bt' gr hb6
        have hR6 : IvAt w6 ro r ∧ IvAt w6 so r := ⟨HR4.out.1.below (bt' hb hb6), HR4.out.2.below (bt' hb hb6)⟩
        clear gr hb6 H6 hb
        go_wp2_with fail
        refine (Equal_any ro so rc sc r r _ hR6.1 hR6.2 (by omega)).mono ?_
        rintro e w7 ⟨rfl, hb7⟩
        rw [show decide (r = r) = true from by simp]
        have g7 := bt' g6 hb7
        clear g6 hb7 hR6
        go_wp2_with fail
        refine (unhide H4 _ g7).mono ?_
        rintro e w8 ⟨rfl, hb8⟩
        have g8 := bt' g7 hb8
        clear g7 hb8
        go_wp2_with fail
        refine (unhide H5 _ g8).mono ?_
        rintro e w9 ⟨rfl, rfl⟩
        cases q
        all_goals
          go_wp2
          go_ret
          exact ⟨rfl, g8⟩
  · simp only [e1, if_true] at h1 h2 h3
    have HN : Hid (Near l l.length) := nl
    clear e1 nl fl
    have H1 := hide h1
    have H2 := hide h2
    have H3 := hide h3
    have H4 := hide h4
    have H5 := hide h5
    clear h1 h2 h3 h4 h5
    go_enter Try.func3, Try.ntmps3
    go_wp2_with fail
    refine (unhide H1 _ (Below.refl _ _)).mono ?_
    rintro e w1 ⟨rfl, g1⟩
    go_wp2_with fail
    refine (Norm_any ao ca l _ (HL.out.below g1)).mono ?_
    rintro e w2 ⟨n, r, hN, ro, rc, rfl, hr, hb2⟩
    have g2 := bt' g1 hb2
    have HNR : Hid (NormRes l n r) := hN
    have hrl := norm_len hN
    clear hN g1 hb2
    go_wp2_with fail
    refine (RNorm_any ao ca l _ (HL.out.below g2)).mono ?_
    rintro e w3 ⟨n', r', hN', so, sc, rfl, hs, hb3⟩
    obtain ⟨rfl, rfl⟩ := norm_ref HNR.out hN'
    have g3 := bt' g2 hb3
    have hr3 := hr.below hb3
    clear hN' HNR hr g2 hb3
    go_wp2_with fail
    refine (unhide H2 _ g3).mono ?_
    rintro e w4 ⟨rfl, hb4⟩
    have g4 := bt' g3 hb4
    have HR4 : Hid (IvAt w4 ro r ∧ IvAt w4 so r) := ⟨hr3.below hb4, hs.below hb4⟩
    clear g3 hb4 hr3 hs
    have hmm : (l.length : Int) ≤ 9223372036854775807 := by omega
    go_wp2_with fail
    go_loopw [12, 34] (fun s i wr => ∃ k : Nat, k ≤ l.length ∧ i = .int .i64 k ∧ s = .int .i64 (size (l.take k)) ∧ Below w4.heap.size w4 wr) (fun _ i _ => l.length - (intOf i).toNat)
    case atStart => exact ⟨0, Nat.zero_le _, rfl, rfl, Below.refl _ _⟩
    case round =>
      obtain ⟨k, hk, rfl, rfl, hb⟩ := hrel
      have bd := size_take_bd HN.out k hk
      have gr := bt' g4 hb
      by_cases hlt : k < l.length
      · rcases HL.out.below gr with h0 | ⟨b, off, rfl, hbw, hc⟩
        · subst h0; simp at hlt
        obtain ⟨c0, c1⟩ := hc k hlt
        have HS : ∀ o, Below w4.heap.size w4 (wr.alloc o) := fun o => hb.alloc hb.size o
        have hnk := HN.out k hlt
        rw [List.getD_eq_getElem?_getD, List.getElem?_eq_getElem hlt] at hnk
        simp only [Option.getD_some, nearB] at hnk
        have HZ : Hid (size (l.take (k + 1)) = size (l.take k) + (l[k].2 - l[k].1)) := size_take_succ hlt
        have l200 : (k : Int) ≤ 200 := by omega
        clear hc
        generalize hs : size (l.take k) = s at *
        clear hs
        go_wp2
        go_roundw
        case rel => exact ⟨k + 1, by omega, by go_num, by rw [HZ.out], HS _⟩
        case measure => simp [intOf]; omega
      · have hkl : k = l.length := by omega
        subst hkl
        rw [List.take_length] at bd ⊢
        generalize hs : size l = s at *
        clear hs
        have H6 := unhide H3 wr gr
        go_wp2_with fail
        refine H6.mono ?_
        rintro e w6 ⟨rfl, hb6⟩
        have g6 := bt' gr hb6
        have hR6 : IvAt w6 ro r ∧ IvAt w6 so r := ⟨HR4.out.1.below (bt' hb hb6), HR4.out.2.below (bt' hb hb6)⟩
        clear gr hb6 H6 hb
        go_wp2_with fail
        refine (Equal_any ro so rc sc r r _ hR6.1 hR6.2 (by omega)).mono ?_
        rintro e w7 ⟨rfl, hb7⟩
        rw [show decide (r = r) = true from by simp]
        have g7 := bt' g6 hb7
        clear g6 hb7 hR6
        go_wp2_with fail
        refine (unhide H4 _ g7).mono ?_
        rintro e w8 ⟨rfl, hb8⟩
        have g8 := bt' g7 hb8
        clear g7 hb8
        go_wp2_with fail
        refine (unhide H5 _ g8).mono ?_
        rintro e w9 ⟨rfl, rfl⟩
        cases q
        all_goals
          go_wp2
          go_ret
          exact ⟨rfl, g8⟩

end Go.Proofs.Ytianoalbcaphiaa
