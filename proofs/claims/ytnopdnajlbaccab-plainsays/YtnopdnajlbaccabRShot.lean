/-
  What Shot of the reference answers.
-/
import Derived.Test.YtnopdnajlbaccabRIn
namespace Go.Proofs.Ytnopdnajlbaccab
open Go.RowKit

set_option maxRecDepth 100000 in
set_option maxHeartbeats 4000000 in
theorem rShot_any (ao bo : Option Addr) (ca cb : Nat) (al : List Bool) (arcs : List Ac) (w : World) (hA : BsAt w ao al) (hR : PcAt w bo arcs) :
    Calls Try.prog 4 #[.agg #[.slice ao al.length ca, .slice bo arcs.length cb]] w fun e w' => e = .returned (.int .i64 (shot al arcs)) ∧ Below w.heap.size w w' := by
  have HB := hidep (pal w)
  by_cases n1 : 12 < al.length
  · have HC := hidep (shot_large (al := al) (arcs := arcs) (.inl n1))
    clear hA hR
    go_enter Try.func4, Try.ntmps4
    go_wp2
    go_ret
    exact ⟨retp_int HC.out.symm, HB.out _⟩
  by_cases n2 : 30 < arcs.length
  · have HC := hidep (shot_large (al := al) (arcs := arcs) (.inr n2))
    clear hA hR
    go_enter Try.func4, Try.ntmps4
    go_wp2
    go_ret
    exact ⟨retp_int HC.out.symm, HB.out _⟩
  have HN : Hid (¬ (12 < al.length ∨ 30 < arcs.length)) := by show ¬ _; omega
  have hl30 : arcs.length ≤ 30 := by omega
  have hl12 : al.length ≤ 12 := by omega
  have hw0 : IntKind.i64.wrap ((al.length : Int) - 1) = (al.length : Int) - 1 := wrap_near _ (by omega) (by omega)
  go_enter Try.func4, Try.ntmps4
  go_wp2
  go_loopw [4, 5] (fun i _ wr => ∃ k : Nat, k ≤ arcs.length ∧ i = .int .i64 k ∧ (arcs.take k).all (endsB al) = true ∧ Below (w.heap.size + 1) (w.alloc (.cells #[.slice ao al.length ca, .slice bo arcs.length cb] 25)) wr) (fun i _ _ => arcs.length - (intOf i).toNat)
  case atStart => exact ⟨0, Nat.zero_le _, rfl, rfl, Below.refl _ _⟩
  case round =>
    obtain ⟨k, hk, rfl, hI, hb⟩ := hrel
    have HI := hidep hI
    clear hI
    have hbw : Below w.heap.size w wr := (HB.out _).trans (hb.mono (by omega))
    have hz := hb.size
    simp only [World.size_alloc] at hz
    have hz0 : w.heap.size < wr.heap.size := by omega
    have q0 : wr.cell? ⟨w.heap.size, 0, none⟩ = some (.slice ao al.length ca) := by rw [hb.cell (p := ⟨w.heap.size, 0, none⟩) (by simp)]; simp
    have q1 : wr.cell? ⟨w.heap.size, 1, none⟩ = some (.slice bo arcs.length cb) := by rw [hb.cell (p := ⟨w.heap.size, 1, none⟩) (by simp)]; simp
    by_cases hlt : k < arcs.length
    · rcases hR.below hbw with h0 | ⟨b, off, rfl, hbr, hc⟩
      · subst h0; simp at hlt
      obtain ⟨c0, c1, c2⟩ := PcAt.at3 hlt hc
      have HNX : Hid (∀ o, Below w.heap.size w (wr.alloc o) ∧ Below (w.heap.size + 1) (w.alloc (.cells #[.slice ao al.length ca, .slice (some ⟨b, off, none⟩) arcs.length cb] 25)) (wr.alloc o)) := fun o => ⟨ptw hbw (pal wr o), hb.alloc (by omega) o⟩
      have h1 := fun v W => rIn_any v 0 ((al.length : Int) - 1) W
      simp only [inZ_vtx] at h1
      have HNE : Hid (endsB al arcs[k] = false → shot al arcs = 4) := fun h => shot_none HN.out hlt h
      have HYE : Hid (endsB al arcs[k] = true → (arcs.take (k + 1)).all (endsB al) = true) := fun h => all_take_succ hlt HI.out h
      have hEB : endsB al arcs[k] = (alv al arcs[k].1 && alv al arcs[k].2.1) := rfl
      rw [hEB] at HNE HYE
      clear hEB hc hR HI hb
      generalize arcs[k].2.2 = ac at *
      generalize arcs[k].1 = x at *
      generalize arcs[k].2.1 = y at *
      cases e1 : vtx al.length x with
      | false =>
        have HE := hidep (HNE.out (by rw [alv_no e1]; rfl))
        have g1 := h1 x
        rw [e1] at g1
        clear h1 e1 hA
        go_wp2_with (go_at_call 8; refine (g1 _).mono ?_; rintro e w1 ⟨rfl, rfl⟩)
        go_ret
        exact ⟨retp_int HE.out.symm, (HNX.out _).1⟩
      | true =>
        have g1 := h1 x
        rw [e1] at g1
        cases e2 : vtx al.length y with
        | false =>
          have HE := hidep (HNE.out (by rw [alv_no e2]; simp))
          have g2 := h1 y
          rw [e2] at g2
          clear h1 e1 e2 hA
          go_wp2_with fail
          refine (g1 _).mono ?_
          rintro e w1 ⟨rfl, rfl⟩
          go_wp2_with fail
          refine (g2 _).mono ?_
          rintro e w1 ⟨rfl, rfl⟩
          go_wp2
          go_ret
          exact ⟨retp_int HE.out.symm, (HNX.out _).1⟩
        | true =>
          have g2 := h1 y
          rw [e2] at g2
          have a1 := alv_yes e1
          have a2 := alv_yes e2
          have r1 := (vtx_iff _ _).1 e1
          have r2 := (vtx_iff _ _).1 e2
          obtain ⟨X, rfl⟩ : ∃ k : Nat, x = (k : Int) := ⟨x.toNat, by omega⟩
          obtain ⟨Y, rfl⟩ : ∃ k : Nat, y = (k : Int) := ⟨y.toNat, by omega⟩
          have hX : X < al.length := by omega
          have hY : Y < al.length := by omega
          rw [Int.toNat_natCast, List.getD_eq_getElem?_getD, List.getElem?_eq_getElem hX, Option.getD_some] at a1
          rw [Int.toNat_natCast, List.getD_eq_getElem?_getD, List.getElem?_eq_getElem hY, Option.getD_some] at a2
          rw [a1, a2] at HNE HYE
          rcases hA.below hbw with h0 | ⟨ab, aoff, rfl, hab, hac⟩
          · subst h0; simp at hX
          have dX := BsAt.at1 hX hac
          have dY := BsAt.at1 hY hac
          have iX : (X : Int) < (al.length : Int) := by omega
          have iY : (Y : Int) < (al.length : Int) := by omega
          clear hac hA h1 e1 e2 a1 a2 r1 r2
          generalize al[X] = bX at *
          generalize al[Y] = bY at *
          cases bX with
          | false =>
            have HE := hidep (HNE.out rfl)
            go_wp2_with fail
            refine (g1 _).mono ?_
            rintro e w1 ⟨rfl, rfl⟩
            go_wp2_with fail
            refine (g2 _).mono ?_
            rintro e w1 ⟨rfl, rfl⟩
            go_wp2
            go_ret
            exact ⟨retp_int HE.out.symm, (HNX.out _).1⟩
          | true =>
            cases bY with
            | false =>
              have HE := hidep (HNE.out rfl)
              go_wp2_with fail
              refine (g1 _).mono ?_
              rintro e w1 ⟨rfl, rfl⟩
              go_wp2_with fail
              refine (g2 _).mono ?_
              rintro e w1 ⟨rfl, rfl⟩
              go_wp2
              go_ret
              exact ⟨retp_int HE.out.symm, (HNX.out _).1⟩
            | true =>
              have HE := hidep (HYE.out rfl)
              go_wp2_with fail
              refine (g1 _).mono ?_
              rintro e w1 ⟨rfl, rfl⟩
              go_wp2_with fail
              refine (g2 _).mono ?_
              rintro e w1 ⟨rfl, rfl⟩
              go_wp2
              go_roundw
              case rel => exact ⟨k + 1, by omega, by go_num, HE.out, (HNX.out _).2⟩
              case measure => simp [intOf]; omega
    · have hkl : k = arcs.length := by omega
      subst hkl
      have HE := hidep (all_take_end HI.out)
      have hR2 := hR.below hbw
      have HBW := hidep hbw
      clear hR hA hbw hb HI
      obtain ⟨wo, rfl⟩ : ∃ x, x = wr := ⟨_, rfl⟩
      go_wp2
      go_loopw [6] (fun i wr => ∃ k : Nat, k ≤ arcs.length ∧ i = .int .i64 k ∧ (arcs.take k).all costB = true ∧ Below wo.heap.size wo wr) (fun i _ => arcs.length - (intOf i).toNat)
      case atStart => exact ⟨0, Nat.zero_le _, rfl, rfl, Below.refl _ _⟩
      case round =>
        obtain ⟨k, hk, rfl, hI, hb⟩ := hrel
        have HI := hidep hI
        clear hI
        have hz := hb.size
        have p1 := (hb.cell (p := ⟨w.heap.size, 1, none⟩) hz0).trans q1
        have hz1 : w.heap.size < wr.heap.size := by omega
        by_cases hlt : k < arcs.length
        · rcases hR2.below hb with h0 | ⟨b, off, rfl, hbr, hc⟩
          · subst h0; simp at hlt
          obtain ⟨c0, c1, c2⟩ := PcAt.at3 hlt hc
          have hEB : costB arcs[k] = inZ arcs[k].2.2 0 1000 := rfl
          have g1 := fun W => rIn_any arcs[k].2.2 0 1000 W
          clear hc hR2
          cases e1 : inZ arcs[k].2.2 0 1000 with
          | false =>
            have HC := hidep (shot_cost HN.out HE.out hlt (hEB.trans e1))
            rw [e1] at g1
            clear e1 hEB
            go_wp2_with (go_at_call 8; refine (g1 _).mono ?_; rintro e w1 ⟨rfl, rfl⟩)
            go_ret
            exact ⟨retp_int HC.out.symm, ptw HBW.out hb⟩
          | true =>
            have HC := hidep (all_take_succ hlt HI.out (hEB.trans e1))
            rw [e1] at g1
            clear e1 hEB
            go_wp2_with (go_at_call 8; refine (g1 _).mono ?_; rintro e w1 ⟨rfl, rfl⟩)
            go_roundw
            case rel => exact ⟨k + 1, by omega, by go_num, HC.out, hb⟩
            case measure => simp [intOf]; omega
        · have hkl : k = arcs.length := by omega
          subst hkl
          have HC := hidep (shot_ok HN.out HE.out (all_take_end HI.out))
          go_wp2
          go_ret
          exact ⟨retp_int HC.out.symm, ptw HBW.out hb⟩

end Go.Proofs.Ytnopdnajlbaccab
