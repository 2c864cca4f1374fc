/-
  What Check of the program's maps answers, for every list.
-/
import Derived.Test.YtanbbkoleekmjagPChk
import Derived.Test.YtanbbkoleekmjagPk1
namespace Go.Proofs.Ytanbbkoleekmjag
open Go.RowKit

set_option maxRecDepth 100000 in
set_option maxHeartbeats 4000000 in
theorem PCheck_any (ao : Option Addr) (cap : Nat) (m : List (Int × Int × Int)) (w : World) (hl : PcAt w ao m) :
    Calls Try.prog 15 #[.slice ao m.length cap] w fun e w' => e = .returned (.int .i64 (mchk m)) ∧ Below w.heap.size w w' := by
  by_cases h2 : 200 < m.length
  · have HC : Hid (mchk m = 2) := mchk_large h2
    go_enter Try.func15, Try.ntmps15
    go_wp2
    go_ret
    exact ⟨ret_int HC.out.symm, Below.refl _ _⟩
  · have h3 : m.length ≤ 200 := by omega
    go_enter Try.func15, Try.ntmps15
    go_wp2
    go_loopw [3, 10] (fun _ i wr => ∃ k : Nat, k ≤ m.length ∧ i = .int .i64 k ∧ MGood m k ∧ Below w.heap.size w wr) (fun _ i _ => m.length - (intOf i).toNat)
    case atStart => exact ⟨0, Nat.zero_le _, rfl, fun i hi => absurd hi (Nat.not_lt_zero _), Below.refl _ _⟩
    case round =>
      obtain ⟨k, hk, rfl, hn, hb⟩ := hrel
      have HN : Hid (MGood m k) := hn
      clear hn
      by_cases hlt : k < m.length
      · rcases hl.below hb with h0 | ⟨b, off, rfl, hbw, hc⟩
        · subst h0; simp at hlt
        obtain ⟨c0, c1, c2⟩ := PcAt.get hlt hc
        have HG : Hid (m.getD k (0, 0, 0) = m[k]) := getD3 hlt
        have HNear : Hid (∀ W, Calls Try.prog 38 #[.agg #[.int .i64 m[k].1, .int .i64 m[k].2.1, .int .i64 m[k].2.2]] W fun e w' => e = .returned (.bool (nr3 m[k].1 m[k].2.1 m[k].2.2)) ∧ Below W.heap.size W w') := fun W => pnear_any m[k].1 m[k].2.1 m[k].2.2 W
        have HK : Hid (∀ w1, Below (wr.alloc (.cells #[.int .i64 m[k].1, .int .i64 m[k].2.1, .int .i64 m[k].2.2] 39)).heap.size (wr.alloc (.cells #[.int .i64 m[k].1, .int .i64 m[k].2.1, .int .i64 m[k].2.2] 39)) w1 → Kp w wr w1 b (off + k * 3) m[k] m[k]) := fun w1 h => kp_start hb hbw c0 c1 c2 h
        by_cases n1 : NearP m[k]
        · have e1 := (nr3_iff m[k]).2 n1
          rw [e1] at HNear
          by_cases g1 : m[k].2.1 ≤ m[k].1
          · have HC : Hid (mchk m = 5) := mchk_no (k := k) h3 hlt (by unfold Sound; rw [HG.out]; rintro ⟨_, h, _⟩; omega)
            have d1 : decide (m[k].2.1 ≤ m[k].1) = true := by simpa using g1
            clear hc hl n1 e1 hb
            go_wp2_with fail
            generalize wr.alloc (.cells #[.int .i64 m[k].1, .int .i64 m[k].2.1, .int .i64 m[k].2.2] 39) = W0 at HK ⊢
            have f0 : ∀ s : HeldIn W0, s.w.cell? ⟨wr.heap.size, 0, none⟩ = some (.int .i64 m[k].1) := fun s => (HK.out _ s.h).k0
            have f1 : ∀ s : HeldIn W0, s.w.cell? ⟨wr.heap.size, 1, none⟩ = some (.int .i64 m[k].2.1) := fun s => (HK.out _ s.h).k1
            have f2 : ∀ s : HeldIn W0, s.w.cell? ⟨wr.heap.size, 2, none⟩ = some (.int .i64 m[k].2.2) := fun s => (HK.out _ s.h).k2
            have hne : Nonempty (HeldIn W0) := ⟨⟨W0, Below.refl _ _⟩⟩
            refine wp_region_held W0 (Below.refl _ _) (by kernel_rfl) (by kernel_rfl) ?_
            repeat (go_big_quiet_step ((first | (go_at_call 38; exact held_of (HNear.out _)) | (go_at_call 39; exact held_of (HFol.out _)))))
            refine wpQuiet_nil ?_
            rintro _ ⟨s, rfl⟩
            have hbs := (HK.out _ s.h).bel
            generalize s.w = w1 at hbs ⊢
            go_wp2
            go_ret
            exact ⟨ret_int HC.out.symm, hbs⟩
          · have d1 : decide (m[k].2.1 ≤ m[k].1) = false := by simpa using g1
            by_cases hk0 : k = 0
            · subst hk0
              simp only [Nat.zero_mul, Nat.add_zero] at c0 c1 c2
              have HS : Hid (MGood m (0 + 1)) := mgood_succ HN.out ⟨by rw [HG.out]; exact n1, by rw [HG.out]; omega, fun h => absurd h (Nat.lt_irrefl _)⟩
              clear hc hl n1 e1 hb
              go_wp2_with fail
              generalize wr.alloc (.cells #[.int .i64 m[0].1, .int .i64 m[0].2.1, .int .i64 m[0].2.2] 39) = W0 at HK ⊢
              have f0 : ∀ s : HeldIn W0, s.w.cell? ⟨wr.heap.size, 0, none⟩ = some (.int .i64 m[0].1) := fun s => (HK.out _ s.h).k0
              have f1 : ∀ s : HeldIn W0, s.w.cell? ⟨wr.heap.size, 1, none⟩ = some (.int .i64 m[0].2.1) := fun s => (HK.out _ s.h).k1
              have f2 : ∀ s : HeldIn W0, s.w.cell? ⟨wr.heap.size, 2, none⟩ = some (.int .i64 m[0].2.2) := fun s => (HK.out _ s.h).k2
              have hne : Nonempty (HeldIn W0) := ⟨⟨W0, Below.refl _ _⟩⟩
              refine wp_region_held W0 (Below.refl _ _) (by kernel_rfl) (by kernel_rfl) ?_
              repeat (go_big_quiet_step ((first | (go_at_call 38; exact held_of (HNear.out _)) | (go_at_call 39; exact held_of (HFol.out _)))))
              refine wpQuiet_nil ?_
              rintro _ ⟨s, rfl⟩
              have hbs := (HK.out _ s.h).bel
              generalize s.w = w1 at hbs ⊢
              go_wp2
              go_roundw
              case rel => exact ⟨0 + 1, by omega, by go_num, HS.out, hbs⟩
              case measure => simp [intOf]; omega
            · obtain ⟨j, rfl⟩ : ∃ j, k = j + 1 := ⟨k - 1, by omega⟩
              have hj : j < m.length := by omega
              obtain ⟨p0, p1, p2⟩ := PcAt.get hj hc
              have HGj : Hid (m.getD (j + 1 - 1) (0, 0, 0) = m[j]) := by show _ = _; rw [Nat.add_sub_cancel]; exact getD3 hj
              clear HK
              have HK : Hid (∀ w1, Below (wr.alloc (.cells #[.int .i64 m[j + 1].1, .int .i64 m[j + 1].2.1, .int .i64 m[j + 1].2.2] 39)).heap.size (wr.alloc (.cells #[.int .i64 m[j + 1].1, .int .i64 m[j + 1].2.1, .int .i64 m[j + 1].2.2] 39)) w1 → Kp w wr w1 b (off + j * 3) m[j + 1] m[j]) := fun w1 h => kp_start hb hbw p0 p1 p2 h
              have HFol : Hid (∀ W, Calls Try.prog 39 #[.agg #[.int .i64 m[j].1, .int .i64 m[j].2.1, .int .i64 m[j].2.2], .agg #[.int .i64 m[j + 1].1, .int .i64 m[j + 1].2.1, .int .i64 m[j + 1].2.2]] W fun e w' => e = .returned (.bool (folB m[j] m[j + 1])) ∧ Below W.heap.size W w') := fun W => follows_any m[j].1 m[j].2.1 m[j].2.2 m[j + 1].1 m[j + 1].2.1 m[j + 1].2.2 W
              have hj1 : (0 : Int) ≤ (j : Int) := by omega
              have hj2 : (j : Int) < (m.length : Int) := by omega
              by_cases g2 : Fol m[j] m[j + 1]
              · have HS : Hid (MGood m (j + 1 + 1)) := mgood_succ HN.out ⟨by rw [HG.out]; exact n1, by rw [HG.out]; omega, fun _ => by rw [HG.out, HGj.out]; exact g2⟩
                rw [(folB_iff _ _).2 g2] at HFol
                clear hc hl n1 e1 hb g2
                go_wp2_with fail
                generalize wr.alloc (.cells #[.int .i64 m[j + 1].1, .int .i64 m[j + 1].2.1, .int .i64 m[j + 1].2.2] 39) = W0 at HK ⊢
                have f0 : ∀ s : HeldIn W0, s.w.cell? ⟨wr.heap.size, 0, none⟩ = some (.int .i64 m[j + 1].1) := fun s => (HK.out _ s.h).k0
                have f1 : ∀ s : HeldIn W0, s.w.cell? ⟨wr.heap.size, 1, none⟩ = some (.int .i64 m[j + 1].2.1) := fun s => (HK.out _ s.h).k1
                have f2 : ∀ s : HeldIn W0, s.w.cell? ⟨wr.heap.size, 2, none⟩ = some (.int .i64 m[j + 1].2.2) := fun s => (HK.out _ s.h).k2
                have q0 : ∀ s : HeldIn W0, s.w.cell? ⟨b, off + j * 3, none⟩ = some (.int .i64 m[j].1) := fun s => (HK.out _ s.h).q0
                have q1 : ∀ s : HeldIn W0, s.w.cell? ⟨b, off + j * 3 + 1, none⟩ = some (.int .i64 m[j].2.1) := fun s => (HK.out _ s.h).q1
                have q2 : ∀ s : HeldIn W0, s.w.cell? ⟨b, off + j * 3 + 2, none⟩ = some (.int .i64 m[j].2.2) := fun s => (HK.out _ s.h).q2
                have hne : Nonempty (HeldIn W0) := ⟨⟨W0, Below.refl _ _⟩⟩
                refine wp_region_held W0 (Below.refl _ _) (by kernel_rfl) (by kernel_rfl) ?_
                repeat (go_big_quiet_step ((first | (go_at_call 38; exact held_of (HNear.out _)) | (go_at_call 39; exact held_of (HFol.out _)))))
                refine wpQuiet_nil ?_
                rintro _ ⟨s, rfl⟩
                have hbs := (HK.out _ s.h).bel
                generalize s.w = w1 at hbs ⊢
                go_wp2
                go_roundw
                case rel => exact ⟨j + 1 + 1, by omega, by go_num, HS.out, hbs⟩
                case measure => simp [intOf]; omega
              · have HC : Hid (mchk m = 5) := mchk_no (k := j + 1) h3 hlt (by unfold Sound; rw [HG.out, HGj.out]; rintro ⟨_, _, h⟩; exact g2 (h (by omega)))
                rw [show folB m[j] m[j + 1] = false from by rw [← Bool.not_eq_true, folB_iff]; exact g2] at HFol
                clear hc hl n1 e1 hb g2
                go_wp2_with fail
                generalize wr.alloc (.cells #[.int .i64 m[j + 1].1, .int .i64 m[j + 1].2.1, .int .i64 m[j + 1].2.2] 39) = W0 at HK ⊢
                have f0 : ∀ s : HeldIn W0, s.w.cell? ⟨wr.heap.size, 0, none⟩ = some (.int .i64 m[j + 1].1) := fun s => (HK.out _ s.h).k0
                have f1 : ∀ s : HeldIn W0, s.w.cell? ⟨wr.heap.size, 1, none⟩ = some (.int .i64 m[j + 1].2.1) := fun s => (HK.out _ s.h).k1
                have f2 : ∀ s : HeldIn W0, s.w.cell? ⟨wr.heap.size, 2, none⟩ = some (.int .i64 m[j + 1].2.2) := fun s => (HK.out _ s.h).k2
                have q0 : ∀ s : HeldIn W0, s.w.cell? ⟨b, off + j * 3, none⟩ = some (.int .i64 m[j].1) := fun s => (HK.out _ s.h).q0
                have q1 : ∀ s : HeldIn W0, s.w.cell? ⟨b, off + j * 3 + 1, none⟩ = some (.int .i64 m[j].2.1) := fun s => (HK.out _ s.h).q1
                have q2 : ∀ s : HeldIn W0, s.w.cell? ⟨b, off + j * 3 + 2, none⟩ = some (.int .i64 m[j].2.2) := fun s => (HK.out _ s.h).q2
                have hne : Nonempty (HeldIn W0) := ⟨⟨W0, Below.refl _ _⟩⟩
                refine wp_region_held W0 (Below.refl _ _) (by kernel_rfl) (by kernel_rfl) ?_
                repeat (go_big_quiet_step ((first | (go_at_call 38; exact held_of (HNear.out _)) | (go_at_call 39; exact held_of (HFol.out _)))))
                refine wpQuiet_nil ?_
                rintro _ ⟨s, rfl⟩
                have hbs := (HK.out _ s.h).bel
                generalize s.w = w1 at hbs ⊢
                go_wp2
                go_ret
                exact ⟨ret_int HC.out.symm, hbs⟩
        · have HC : Hid (mchk m = 5) := mchk_no (k := k) h3 hlt (by unfold Sound; rw [HG.out]; rintro ⟨h, _, _⟩; exact n1 h)
          rw [show nr3 m[k].1 m[k].2.1 m[k].2.2 = false from by rw [← Bool.not_eq_true, nr3_iff]; exact n1] at HNear
          clear hc hl n1 hb
          go_wp2_with fail
          generalize wr.alloc (.cells #[.int .i64 m[k].1, .int .i64 m[k].2.1, .int .i64 m[k].2.2] 39) = W0 at HK ⊢
          have f0 : ∀ s : HeldIn W0, s.w.cell? ⟨wr.heap.size, 0, none⟩ = some (.int .i64 m[k].1) := fun s => (HK.out _ s.h).k0
          have f1 : ∀ s : HeldIn W0, s.w.cell? ⟨wr.heap.size, 1, none⟩ = some (.int .i64 m[k].2.1) := fun s => (HK.out _ s.h).k1
          have f2 : ∀ s : HeldIn W0, s.w.cell? ⟨wr.heap.size, 2, none⟩ = some (.int .i64 m[k].2.2) := fun s => (HK.out _ s.h).k2
          have hne : Nonempty (HeldIn W0) := ⟨⟨W0, Below.refl _ _⟩⟩
          refine wp_region_held W0 (Below.refl _ _) (by kernel_rfl) (by kernel_rfl) ?_
          repeat (go_big_quiet_step ((first | (go_at_call 38; exact held_of (HNear.out _)) | (go_at_call 39; exact held_of (HFol.out _)))))
          refine wpQuiet_nil ?_
          rintro _ ⟨s, rfl⟩
          have hbs := (HK.out _ s.h).bel
          generalize s.w = w1 at hbs ⊢
          go_wp2
          go_ret
          exact ⟨ret_int HC.out.symm, hbs⟩
      · have hkl : k = m.length := by omega
        subst hkl
        have HC : Hid (mchk m = 0) := mchk_ok h3 HN.out
        go_wp2
        go_ret
        exact ⟨ret_int HC.out.symm, hb⟩

end Go.Proofs.Ytanbbkoleekmjag
