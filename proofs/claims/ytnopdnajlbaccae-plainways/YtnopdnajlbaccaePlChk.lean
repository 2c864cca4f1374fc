/-
  What isVertex, alive and Check of the program's snapshots answer.
-/
import Derived.Test.YtnopdnajlbaccaeSBase
namespace Go.Proofs.Ytnopdnajlbaccae
open Go.RowKit

theorem isVertex_any (ao bo : Option Addr) (n ca m cb : Nat) (v : Int) (w : World) :
    Calls Try.prog 46 #[.agg #[.slice ao n ca, .slice bo m cb], .int .i64 v] w fun e w' => e = .returned (.bool (vtx n v)) ∧ Below w.heap.size w w' := by
  have HB := hidep (pal w)
  by_cases h1 : 0 ≤ v
  · by_cases h2 : v < (n : Int)
    · have HC := hidep ((vtx_iff n v).2 ⟨h1, h2⟩)
      go_enter Try.func46, Try.ntmps46
      go_wp2
      go_ret
      exact ⟨retp_bool HC.out.symm, HB.out _⟩
    · have HC : Hid (vtx n v = false) := by show _ = _; rw [← Bool.not_eq_true, vtx_iff]; omega
      go_enter Try.func46, Try.ntmps46
      go_wp2
      go_ret
      exact ⟨retp_bool HC.out.symm, HB.out _⟩
  · have HC : Hid (vtx n v = false) := by show _ = _; rw [← Bool.not_eq_true, vtx_iff]; omega
    go_enter Try.func46, Try.ntmps46
    go_wp2
    go_ret
    exact ⟨retp_bool HC.out.symm, HB.out _⟩

theorem plAlive_any (ao bo : Option Addr) (ca m cb : Nat) (al : List Bool) (v : Int) (w : World) (hA : BsAt w ao al) :
    Calls Try.prog 48 #[.agg #[.slice ao al.length ca, .slice bo m cb], .int .i64 v] w fun e w' => e = .returned (.bool (alv al v)) ∧ Below w.heap.size w w' := by
  have HB := hidep (pal w)
  cases hv : vtx al.length v with
  | false =>
    have HC := hidep (alv_no hv)
    have h1 := fun W => isVertex_any ao bo al.length ca m cb v W
    rw [hv] at h1
    clear hv hA
    go_enter Try.func48, Try.ntmps48
    go_wp2_with (go_at_call 46; refine (h1 _).mono ?_; rintro e w1 ⟨rfl, hb1⟩)
    go_ret
    exact ⟨retp_bool HC.out.symm, ptw (HB.out _) hb1⟩
  | true =>
    have HC := hidep (alv_yes hv)
    have h1 := fun W => isVertex_any ao bo al.length ca m cb v W
    rw [hv] at h1
    have hr := (vtx_iff _ _).1 hv
    clear hv
    obtain ⟨k, rfl⟩ : ∃ k : Nat, v = (k : Int) := ⟨v.toNat, by omega⟩
    have hk : k < al.length := by omega
    rw [Int.toNat_natCast, List.getD_eq_getElem?_getD, List.getElem?_eq_getElem hk, Option.getD_some] at HC
    rcases hA with h0 | ⟨b, off, rfl, hlt, hc⟩
    · subst h0; simp at hk
    have c0 := BsAt.at1 hk hc
    have hk1 : (0 : Int) ≤ (k : Int) := by omega
    have hk2 : (k : Int) < (al.length : Int) := by omega
    clear hc hr
    generalize al[k] = x at HC c0
    generalize al.length = n at *
    go_enter Try.func48, Try.ntmps48
    go_wp2_with fail
    refine (h1 _).mono ?_
    rintro e w1 ⟨rfl, hb1⟩
    have hz := hb1.size
    simp only [World.size_alloc] at hz
    have q0 : w1.cell? ⟨w.heap.size, 0, none⟩ = some (.slice (some ⟨b, off, none⟩) n ca) := by rw [hb1.cell (p := ⟨w.heap.size, 0, none⟩) (by simp)]; simp
    have c1 : w1.cell? ⟨b, off + k, none⟩ = some (.bool x) := by rw [(ptw (HB.out _) hb1).cell (p := ⟨b, off + k, none⟩) hlt]; exact c0
    have HB1 := hidep (ptw (HB.out _) hb1)
    clear hb1
    go_wp2
    go_ret
    exact ⟨retp_bool HC.out.symm, HB1.out⟩

set_option maxRecDepth 100000 in
set_option maxHeartbeats 4000000 in
theorem plCheck_any (ao bo : Option Addr) (ca cb : Nat) (al : List Bool) (arcs : List Ac) (w : World) (hA : BsAt w ao al) (hR : PcAt w bo arcs) :
    Calls Try.prog 30 #[.agg #[.slice ao al.length ca, .slice bo arcs.length cb]] w fun e w' => e = .returned (.int .i64 (shot al arcs)) ∧ Below w.heap.size w w' := by
  have HB := hidep (pal w)
  by_cases n1 : 12 < al.length
  · have HC := hidep (shot_large (al := al) (arcs := arcs) (.inl n1))
    clear hA hR
    go_enter Try.func30, Try.ntmps30
    go_wp2
    go_ret
    exact ⟨retp_int HC.out.symm, HB.out _⟩
  by_cases n2 : 30 < arcs.length
  · have HC := hidep (shot_large (al := al) (arcs := arcs) (.inr n2))
    clear hA hR
    go_enter Try.func30, Try.ntmps30
    go_wp2
    go_ret
    exact ⟨retp_int HC.out.symm, HB.out _⟩
  have HN : Hid (¬ (12 < al.length ∨ 30 < arcs.length)) := by show ¬ _; omega
  have hl30 : arcs.length ≤ 30 := by omega
  go_enter Try.func30, Try.ntmps30
  go_wp2
  go_loopw [4, 20] (fun _ i wr => ∃ k : Nat, k ≤ arcs.length ∧ i = .int .i64 k ∧ (arcs.take k).all (endsB al) = true ∧ Below (w.heap.size + 1) (w.alloc (.cells #[.slice ao al.length ca, .slice bo arcs.length cb] 39)) wr) (fun _ i _ => arcs.length - (intOf i).toNat)
  case atStart => exact ⟨0, Nat.zero_le _, rfl, rfl, Below.refl _ _⟩
  case round =>
    obtain ⟨k, hk, rfl, hI, hb⟩ := hrel
    have HI := hidep hI
    clear hI
    have hbw : Below w.heap.size w wr := (HB.out _).trans (hb.mono (by omega))
    have hz := hb.size
    simp only [World.size_alloc] at hz
    have hz0 : w.heap.size < wr.heap.size := by omega
    have q0 : wr.cell? ⟨w.heap.size, 0, none⟩ = some (.slice ao al.length ca) := by rw [hb.cell (p := ⟨w.heap.size, 0, none⟩) (by simp)]; simp
    have q1 : wr.cell? ⟨w.heap.size, 1, none⟩ = some (.slice bo arcs.length cb) := by rw [hb.cell (p := ⟨w.heap.size, 1, none⟩) (by simp)]; simp
    by_cases hlt : k < arcs.length
    · have hA2 := hA.below hbw
      rcases hR.below hbw with h0 | ⟨b, off, rfl, hbr, hc⟩
      · subst h0; simp at hlt
      obtain ⟨c0, c1, c2⟩ := PcAt.at3 hlt hc
      have HNX : Hid (∀ o w1, Below (wr.alloc o).heap.size (wr.alloc o) w1 → Below w.heap.size w w1 ∧ Below (w.heap.size + 1) (w.alloc (.cells #[.slice ao al.length ca, .slice (some ⟨b, off, none⟩) arcs.length cb] 39)) w1) := by
        intro o w1 h1
        have h2 := ptw (pal wr o) h1
        exact ⟨ptw hbw h2, hb.trans (h2.mono (by omega))⟩
      have h1 := fun W (hW : Below wr.heap.size wr W) v => plAlive_any ao (some ⟨b, off, none⟩) ca arcs.length cb al v W (hA2.below hW)
      have HAL := hidep (pal wr)
      clear hc hR hA hA2
      cases e1 : alv al arcs[k].1 with
      | false =>
        have HE := hidep (shot_none HN.out hlt (show endsB al arcs[k] = false by unfold endsB; rw [e1]; rfl))
        have g1 := fun W hW => h1 W hW arcs[k].1
        rw [e1] at g1
        clear h1 e1
        go_wp2_with (go_at_call 48; refine (g1 _ (HAL.out _)).mono ?_; rintro e w1 ⟨rfl, hb1⟩)
        go_ret
        exact ⟨retp_int HE.out.symm, (HNX.out _ _ hb1).1⟩
      | true =>
        have g1 := fun W hW => h1 W hW arcs[k].1
        rw [e1] at g1
        cases e2 : alv al arcs[k].2.1 with
        | false =>
          have HE := hidep (shot_none HN.out hlt (show endsB al arcs[k] = false by unfold endsB; rw [e1, e2]; rfl))
          have g2 := fun W hW => h1 W hW arcs[k].2.1
          rw [e2] at g2
          clear h1 e1 e2
          go_wp2_with fail
          refine (g1 _ (HAL.out _)).mono ?_
          rintro e w1 ⟨rfl, hb1⟩
          have hb2 := ptw (HAL.out _) hb1
          have d0 := (hb2.cell (p := ⟨w.heap.size, 0, none⟩) hz0).trans q0
          have d1 := (hb2.cell (p := ⟨w.heap.size, 1, none⟩) hz0).trans q1
          have x1 : w1.cell? ⟨wr.heap.size, 1, none⟩ = some (.int .i64 arcs[k].2.1) := by rw [hb1.cell (p := ⟨wr.heap.size, 1, none⟩) (by simp)]; simp
          have hz1 := hb1.size
          simp only [World.size_alloc] at hz1
          have hz2 : w.heap.size < w1.heap.size := by omega
          have HN1 := hidep (HNX.out _ _ hb1)
          clear hb1 q0 q1 c0 c1 c2 hb
          go_wp2_with fail
          refine (g2 _ hb2).mono ?_
          rintro e w2 ⟨rfl, hb3⟩
          go_wp2
          go_ret
          exact ⟨retp_int HE.out.symm, ptw HN1.out.1 hb3⟩
        | true =>
          have HE := hidep (all_take_succ hlt HI.out (show endsB al arcs[k] = true by unfold endsB; rw [e1, e2]; rfl))
          have g2 := fun W hW => h1 W hW arcs[k].2.1
          rw [e2] at g2
          clear h1 e1 e2
          go_wp2_with fail
          refine (g1 _ (HAL.out _)).mono ?_
          rintro e w1 ⟨rfl, hb1⟩
          have hb2 := ptw (HAL.out _) hb1
          have d0 := (hb2.cell (p := ⟨w.heap.size, 0, none⟩) hz0).trans q0
          have d1 := (hb2.cell (p := ⟨w.heap.size, 1, none⟩) hz0).trans q1
          have x1 : w1.cell? ⟨wr.heap.size, 1, none⟩ = some (.int .i64 arcs[k].2.1) := by rw [hb1.cell (p := ⟨wr.heap.size, 1, none⟩) (by simp)]; simp
          have hz1 := hb1.size
          simp only [World.size_alloc] at hz1
          have hz2 : w.heap.size < w1.heap.size := by omega
          have HN1 := hidep (HNX.out _ _ hb1)
          clear hb1 q0 q1 c0 c1 c2 hb
          go_wp2_with fail
          refine (g2 _ hb2).mono ?_
          rintro e w2 ⟨rfl, hb3⟩
          go_wp2
          go_roundw
          case rel => exact ⟨k + 1, by omega, by go_num, HE.out, HN1.out.2.trans (hb3.mono (by omega))⟩
          case measure => simp [intOf]; omega
    · have hkl : k = arcs.length := by omega
      subst hkl
      have HE := hidep (all_take_end HI.out)
      have hR2 := hR.below hbw
      have HBW := hidep hbw
      clear hR hA hbw hb HI
      obtain ⟨wo, rfl⟩ : ∃ x, x = wr := ⟨_, rfl⟩
      go_wp2
      go_loopw [6, 40] (fun _ i wr => ∃ k : Nat, k ≤ arcs.length ∧ i = .int .i64 k ∧ (arcs.take k).all costB = true ∧ Below wo.heap.size wo wr) (fun _ i _ => arcs.length - (intOf i).toNat)
      case atStart => exact ⟨0, Nat.zero_le _, rfl, rfl, Below.refl _ _⟩
      case round =>
        obtain ⟨k, hk, rfl, hI, hb⟩ := hrel
        have HI := hidep hI
        clear hI
        have hz := hb.size
        by_cases hlt : k < arcs.length
        · rcases hR2.below hb with h0 | ⟨b, off, rfl, hbr, hc⟩
          · subst h0; simp at hlt
          obtain ⟨c0, c1, c2⟩ := PcAt.at3 hlt hc
          have HNX : Hid (∀ o, Below wo.heap.size wo (wr.alloc o)) := fun o => ptw hb (pal wr o)
          clear hc hR2
          by_cases g1 : arcs[k].2.2 < 0
          · have HC := hidep (shot_cost HN.out HE.out hlt (show costB arcs[k] = false by rw [← Bool.not_eq_true, costB_iff]; omega))
            go_wp2
            go_ret
            exact ⟨retp_int HC.out.symm, ptw HBW.out (HNX.out _)⟩
          · by_cases g2 : 1000 < arcs[k].2.2
            · have HC := hidep (shot_cost HN.out HE.out hlt (show costB arcs[k] = false by rw [← Bool.not_eq_true, costB_iff]; omega))
              go_wp2
              go_ret
              exact ⟨retp_int HC.out.symm, ptw HBW.out (HNX.out _)⟩
            · have HC := hidep (all_take_succ hlt HI.out (show costB arcs[k] = true by rw [costB_iff]; omega))
              go_wp2
              go_roundw
              case rel => exact ⟨k + 1, by omega, by go_num, HC.out, HNX.out _⟩
              case measure => simp [intOf]; omega
        · have hkl : k = arcs.length := by omega
          subst hkl
          have HC := hidep (shot_ok HN.out HE.out (all_take_end HI.out))
          go_wp2
          go_ret
          exact ⟨retp_int HC.out.symm, ptw HBW.out hb⟩

end Go.Proofs.Ytnopdnajlbaccae
