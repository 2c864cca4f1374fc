/-
  The laws EarlyLater, EarlyBack and EarlyVia, walked.
-/
import Derived.Test.YthgelfnflafoiafLawEKeep
namespace Go.Proofs.Ythgelfnflafoiaf
open Go.RowKit

theorem arrA_ok {g : Gr} {v t : Int} (h : placeE g v t = 0) : arrA g v t = (erF g v t).1 := by unfold arrA; rw [if_pos h]
theorem depA_ok {g : Gr} {v t : Int} (h : placeE g v t = 0) : depA g v t = ltF g v t := by unfold depA; rw [if_pos h]

set_option maxRecDepth 100000 in
set_option maxHeartbeats 400000 in
theorem earlyLater_walk (g : Gr) (la ea : Option Addr) (lc ec : Nat) (v a b : Int) (w : World) (hG : GAt w la ea g) :
    Calls Try.prog 5 #[.agg #[.int .i64 g.hor, .slice la g.lives.length lc, .slice ea g.edges.length ec], .int .i64 v, .int .i64 a, .int .i64 b] w fun r w' => r = .returned (.bool true) ∧ Below w.heap.size w w' := by
  have B0 := gbx_start w g la ea lc ec 25
  have h0 := early0_any (w.alloc (.cells #[.int .i64 g.hor, .slice la g.lives.length lc, .slice ea g.edges.length ec] 25))
  obtain ⟨lo, hlo⟩ : ∃ x, x = (if b < a then b else a) := ⟨_, rfl⟩
  obtain ⟨hi', hhi⟩ : ∃ x, x = (if a < b then b else a) := ⟨_, rfl⟩
  have hle : lo ≤ hi' := by rw [hlo, hhi]; split <;> split <;> omega
  have HA := hideg (fun W (hb : Below w.heap.size w W) => eArr_any g la ea lc ec v lo W (hG.below hb))
  have HB := hideg (fun W (hb : Below w.heap.size w W) => eArr_any g la ea lc ec v hi' W (hG.below hb))
  have HAl := hideg (fun (V : Nat) (hV : V < g.lives.length) W (hb : Below w.heap.size w W) => Alive_any g.hor la ea lc g.edges.length ec g.lives V lo W (hG.below hb).lv hV hG.nl)
  have hlos := hlo.symm
  have hhis := hhi.symm
  clear hG hlo hhi
  go_enter Try.func5, Try.ntmps5
  go_wp2_with fail
  refine h0.mono ?_
  rintro r w1 ⟨rfl, hb1⟩
  have B1 := B0.below hb1
  have g0 := B1.c0
  have g1 := B1.c1
  have g2 := B1.c2
  have h1 := HA.out _ B1.bel
  clear h0 hb1 B0 HA
  go_wp2_with fail
  refine h1.mono ?_
  rintro r w2 ⟨u2, rfl, ho2, hb2⟩
  have B2 := B1.below hb2
  clear g0 g1 g2
  have g0 := B2.c0
  have g1 := B2.c1
  have g2 := B2.c2
  have h2 := HB.out _ B2.bel
  clear h1 hb2 B1 HB
  go_wp2_with fail
  refine h2.mono ?_
  rintro r w3 ⟨u3, rfl, ho3, hb3⟩
  have B3 := B2.below hb3
  have ho2 := ownsRow_below ho2 hb3
  clear g0 g1 g2
  have g0 := B3.c0
  have g1 := B3.c1
  have g2 := B3.c2
  have hbF := B3.bel
  clear h2 hb3 B2 hhis
  by_cases e1 : placeE g v lo = 0
  case neg =>
    have d1 : (placeE g v lo != 0) = true := by simpa using e1
    generalize placeE g v lo = n at *
    clear e1 B3 HAl ho2 ho3
    go_wp2
    go_ret
    exact ⟨rfl, hbF⟩
  by_cases e2 : placeE g v hi' = 0
  case neg =>
    have d1 : (placeE g v lo != 0) = false := by simpa using e1
    have d2 : (placeE g v hi' != 0) = true := by simpa using e2
    generalize placeE g v lo = n at *
    generalize placeE g v hi' = n2 at *
    clear e1 e2 B3 HAl ho2 ho3
    go_wp2
    go_ret
    exact ⟨rfl, hbF⟩
  obtain ⟨hg0, ⟨hv0, hv1⟩, ht0, ht1⟩ := placeE_zero e1
  obtain ⟨V, rfl⟩ : ∃ V : Nat, v = (V : Int) := ⟨v.toNat, by omega⟩
  have hV : V < g.lives.length := by omega
  have h3 := HAl.out V hV _ hbF
  rw [arrA_ok e1] at ho2
  rw [arrA_ok e2] at ho3
  have hR := gChk_right hg0
  have hn12 := hR.lvs
  have HLt := hideg (fun ha => arr_later hR hv0 hle (a := lo) (b := hi') ha)
  have hl2 := (erF_len g (V : Int) lo).1
  have hl3 := (erF_len g (V : Int) hi').1
  rw [e1, e2]
  generalize (erF g (V : Int) lo).1 = x2 at *
  generalize (erF g (V : Int) hi').1 = x3 at *
  rw [hl2] at ho2
  rw [hl3] at ho3
  clear e1 e2 hg0 hR HAl
  cases ha : aliveB lo g.lives (V : Int) with
  | false =>
    rw [ha] at h3
    clear ha HLt ho2 ho3 hl2 hl3
    go_wp2_with fail
    refine h3.mono ?_
    rintro r w4 ⟨rfl, hb4⟩
    have hbE := ptg hbF hb4
    clear h3 hb4 hbF B3 g0 g1 g2
    go_wp2
    go_ret
    exact ⟨rfl, hbE⟩
  | true =>
    rw [ha] at h3
    have HL2 := hideg (HLt.out ha)
    clear ha HLt
    go_wp2_with fail
    refine h3.mono ?_
    rintro r w4 ⟨rfl, hb4⟩
    have hbE := ptg hbF hb4
    have ho2 := ownsRow_below ho2 hb4
    have ho3 := ownsRow_below ho3 hb4
    obtain ⟨a2, c2, rfl, z2⟩ := zsAt_of_owns ho2
    obtain ⟨a3, c3, rfl, z3⟩ := zsAt_of_owns ho3
    rw [hl2, hl3]
    have Z2 := hideg z2
    have Z3 := hideg z3
    have Hl2 := hideg hl2
    have Hl3 := hideg hl3
    clear h3 hb4 hbF B3 g0 g1 g2 ho2 ho3 z2 z3 hl2 hl3
    go_wp2_with fail
    go_loopw [51] (fun i wr => ∃ k : Nat, k ≤ g.lives.length ∧ i = .int .i64 k ∧ Below w4.heap.size w4 wr) (fun i _ => g.lives.length - (intOf i).toNat)
    case atStart => exact ⟨0, Nat.zero_le _, rfl, Below.refl _ _⟩
    case round =>
      obtain ⟨k, hk, rfl, hb⟩ := hrel
      by_cases hkl : k < g.lives.length
      · have hki : (k : Int) < (g.lives.length : Int) := by omega
        have hkw : IntKind.i64.wrap ((k : Int) + 1) = (k : Int) + 1 := wrap_nj _ (by omega) (by omega)
        obtain ⟨b2, o2, rfl, hb2, q2⟩ : ∃ b off, a2 = some ⟨b, off, none⟩ ∧ b < wr.heap.size ∧ wr.cell? ⟨b, off + k, none⟩ = some (.int .i64 (x2.getD k 0)) := by
          rcases Z2.out.below hb with h0 | ⟨b, off, rfl, hbr, hc⟩
          · have := Hl2.out; rw [h0] at this; simp at this; omega
          · exact ⟨b, off, rfl, hbr, hc k (by rw [Hl2.out]; exact hkl)⟩
        obtain ⟨b3, o3, rfl, hb3, q3⟩ : ∃ b off, a3 = some ⟨b, off, none⟩ ∧ b < wr.heap.size ∧ wr.cell? ⟨b, off + k, none⟩ = some (.int .i64 (x3.getD k 0)) := by
          rcases Z3.out.below hb with h0 | ⟨b, off, rfl, hbr, hc⟩
          · have := Hl3.out; rw [h0] at this; simp at this; omega
          · exact ⟨b, off, rfl, hbr, hc k (by rw [Hl3.out]; exact hkl)⟩
        have hL := HL2.out k hkl
        generalize x2.getD k 0 = y2 at *
        generalize x3.getD k 0 = y3 at *
        have dL : decide (y3 < y2) = false := by simp; omega
        have HBd : Hid (∀ N, Below w4.heap.size w4 (wr.drewN N)) := fun N => below_drewN hb N
        clear hL
        go_wp2_with fail
        go_quiet (fail)
        clear q2 q3
        go_wp2
        go_roundw
        case rel => exact ⟨k + 1, by omega, by go_num, HBd.out _⟩
        case measure => simp [intOf]; omega
      · have hbF := ptg hbE hb
        go_wp2
        go_ret
        exact ⟨rfl, hbF⟩

end Go.Proofs.Ythgelfnflafoiaf
