/-
  ReadGraph of the reference at a text that is too long, and at the empty one; the law GraphReads, walked over ReadGraph.
-/
import Derived.Test.YtjjhhmlogddnkaaDoorRPcs
import Derived.Test.YtjjhhmlogddnkaaDoorPRead
import Derived.Test.YtjjhhmlogddnkaaDoorSame
namespace Go.Proofs.YtjjhhmlogddnkaaDoor
open Go.RowKit

set_option linter.unusedSimpArgs false in
set_option maxRecDepth 100000 in
set_option maxHeartbeats 8000000 in
theorem RRead_large (s : ByteArray) (w : World) (h8 : 8192 < s.size) :
    Calls Tryd.prog 15 #[.string s] w fun e w' => ∃ v, e = .returned (.tuple #[v, .int .i64 (parse s.data.toList).2.1, .int .i64 (parse s.data.toList).2.2]) ∧ ReadAs w.heap.size w' v (parse s.data.toList).1 ∧ Below w.heap.size w w' := by
  have hsz : s.data.toList.length = s.size := by rw [Array.length_toList]; rfl
  have HP : Hid (parse s.data.toList = (g0, 0, 2)) := by show _ = _; unfold parse; rw [if_pos (by omega)]
  rw [HP.out]
  have h8' : (8192 : Int) < (s.size : Int) := by omega
  clear hsz
  have HB := hideg (gal w)
  go_enter Tryd.func15, Tryd.ntmps15
  go_wp2
  exact bodyPost_ret (v := .tuple #[.agg #[.int .i64 0, .slice none 0 0, .slice none 0 0], .int .i64 0, .int .i64 2]) (by simp [results, Tryd.results15, go_sem]) rfl ⟨_, rfl, ReadAs.none _ _, HB.out _⟩

set_option linter.unusedSimpArgs false in
set_option maxRecDepth 100000 in
set_option maxHeartbeats 8000000 in
theorem RRead_empty (w : World) :
    Calls Tryd.prog 15 #[.string ⟨#[]⟩] w fun e w' => ∃ v, e = .returned (.tuple #[v, .int .i64 1, .int .i64 3]) ∧ ReadAs w.heap.size w' v g0 ∧ Below w.heap.size w w' := by
  have HP : Hid (∀ W (c : UInt8), Calls Tryd.prog 29 #[.string ⟨#[]⟩, .int .u8 (c.toNat : Nat)] W fun e w' => ∃ (gb cap : Nat), e = .returned (.slice (some ⟨gb, 0, none⟩) 1 cap) ∧ w'.cell? ⟨gb, 0, none⟩ = some (.string ⟨#[]⟩) ∧ W.heap.size ≤ gb ∧ gb < w'.heap.size ∧ 1 ≤ cap ∧ cap ≤ 9223372036854775807 ∧ Below W.heap.size W w') := fun W c => by
    refine (Pieces_any ⟨#[]⟩ c W (by decide)).mono ?_
    rintro e w' ⟨gb, cap, ws, hws, rfl, hown, hb⟩
    have e1 : sp c (⟨#[]⟩ : ByteArray).data.toList = [[]] := rfl
    rw [e1] at hws
    obtain ⟨x, rfl⟩ : ∃ x, ws = [x] := by
      match ws, hws with
      | [x], _ => exact ⟨x, rfl⟩
      | [], h => simp at h
      | _ :: _ :: _, h => simp at h
    have hx : x = ⟨#[]⟩ := WideShapes.bytes_inj (by simpa using hws)
    subst hx
    obtain ⟨_, _, q, q1, q2⟩ := row_form hown
    simp only [Value.slice.injEq] at q
    refine ⟨gb, cap, rfl, by rw [hown.cellAt 0 (by simp)]; rfl, (hown.lt gb rfl).1, (hown.lt gb rfl).2, by rw [q.2.2]; exact q1, by rw [q.2.2]; exact q2, hb⟩
  have HP10 : Hid (∀ W, Calls Tryd.prog 29 #[.string ⟨#[]⟩, .int .u8 10] W fun e w' => _) := fun W => HP.out W 10
  have HP32 : Hid (∀ W, Calls Tryd.prog 29 #[.string ⟨#[]⟩, .int .u8 32] W fun e w' => _) := fun W => HP.out W 32
  clear HP
  go_enter Tryd.func15, Tryd.ntmps15
  go_wp2_with fail
  refine (HP10.out _).mono ?_
  rintro e w1 ⟨gb, cap, rfl, c0, g1, g2, g3, g4, hb1⟩
  have HRes : Hid (∀ w', Below w1.heap.size w1 w' → w'.cell? ⟨w.heap.size, 0, none⟩ = some (.int .i64 0) ∧ w'.cell? ⟨w.heap.size, 1, none⟩ = some (.slice none 0 0) ∧ w'.cell? ⟨w.heap.size, 2, none⟩ = some (.slice none 0 0) ∧ ∀ j, w'.frozen? ⟨w.heap.size, j, none⟩ = false) := fun w' h => by
    have hb := ptg hb1 h
    refine ⟨?_, ?_, ?_, fun j => ?_⟩
    · rw [hb.cell (p := ⟨w.heap.size, 0, none⟩) (by simp)]; simp
    · rw [hb.cell (p := ⟨w.heap.size, 1, none⟩) (by simp)]; simp
    · rw [hb.cell (p := ⟨w.heap.size, 2, none⟩) (by simp)]; simp
    · rw [hb.frozen (p := ⟨w.heap.size, j, none⟩) (by simp)]; simp
  have HB1 := hideg (ptg (gal w _) hb1)
  have HBFin : Hid (∀ w', Below w1.heap.size w1 w' → ∀ a b c, Below w.heap.size w (((w'.setCell ⟨w.heap.size, 0, none⟩ a).setCell ⟨w.heap.size, 1, none⟩ b).setCell ⟨w.heap.size, 2, none⟩ c)) := fun w' h a b c =>
    (((ptg HB1.out h).setCell (p := ⟨w.heap.size, 0, none⟩) (Nat.le_refl _) a).setCell (p := ⟨w.heap.size, 1, none⟩) (Nat.le_refl _) b).setCell (p := ⟨w.heap.size, 2, none⟩) (Nat.le_refl _) c
  clear hb1
  go_wp2
  go_loopw [8] (fun i wr => i = .int .i64 0 ∧ wr = w1.alloc (.cells #[.int .i64 0, .slice none 0 0, .slice none 0 0] 25)) (fun _ _ => 0)
  case atStart => exact ⟨rfl, rfl⟩
  case round =>
    obtain ⟨rfl, rfl⟩ := hrel
    have HBa := hideg (gal w1 (.cells #[.int .i64 0, .slice none 0 0, .slice none 0 0] 25))
    go_wp2_with fail
    refine (HP32.out _).mono ?_
    rintro e w2 ⟨gb2, cap2, rfl, d0, g5, g6, g7, g8, hb2⟩
    have b2 : w2.cell? ⟨w1.heap.size, 2, none⟩ = some (.slice none 0 0) := by rw [hb2.cell (p := ⟨w1.heap.size, 2, none⟩) (by simp)]; simp
    have HB2 := hideg (ptg HBa.out hb2)
    have hz2 : w1.heap.size < w2.heap.size := by have := hb2.size; simp at this; omega
    have HNum : Hid (∀ ao c3, Calls Tryd.prog 30 #[.slice ao 0 c3] w2 fun e w' => ∃ v, e = .returned (.tuple #[v, .bool true]) ∧ (∃ o c, v = .slice o 0 c) ∧ Below w2.heap.size w2 w') := fun ao c3 => by
      refine (Numbers_any ao c3 [] w2 (.inl rfl) (by simp)).mono ?_
      rintro e w' ⟨v, rfl, hv, hb⟩
      obtain ⟨o, c, rfl, _, _⟩ := row_form hv
      exact ⟨_, rfl, ⟨o, c, rfl⟩, hb⟩
    clear hb2
    go_wp2_with fail
    all_goals
      refine (HNum.out _ _).mono ?_
      rintro e w3 ⟨v, rfl, ⟨vo, vc, rfl⟩, hb3⟩
      have b3 := (hb3.cell (p := ⟨w1.heap.size, 2, none⟩) hz2).trans b2
      have d3 := (hb3.cell (p := ⟨gb2, 0, none⟩) g6).trans d0
      have HB3 := hideg (ptg HB2.out hb3)
      obtain ⟨r0, r1, r2, f0⟩ := HRes.out w3 HB3.out
      have HBF := hideg (HBFin.out w3 HB3.out)
      clear hb3 b2 d0
      go_wp2
      exact bodyPost_ret (v := .tuple #[.agg #[.int .i64 0, .slice none 0 0, .slice none 0 0], .int .i64 1, .int .i64 3]) (by simp [results, Tryd.results15, go_sem, r0, r1, r2]) rfl ⟨_, rfl, ReadAs.none _ _, HBF.out _ _ _⟩

set_option linter.unusedSimpArgs false in
set_option maxRecDepth 100000 in
set_option maxHeartbeats 8000000 in
theorem reads_over (s : ByteArray) (W : World) (hM : Ml W.heap.size W) (hRe : ∀ w, Calls Tryd.prog 15 #[.string s] w fun e w' => ∃ v, e = .returned (.tuple #[v, .int .i64 (parse s.data.toList).2.1, .int .i64 (parse s.data.toList).2.2]) ∧ ReadAs w.heap.size w' v (parse s.data.toList).1 ∧ Below w.heap.size w w') :
    Calls Tryd.prog 4 #[.string s] W fun e W' => e = .returned (.bool true) ∧ Below W.heap.size W W' := by
  have HPa := hideg (Parse_any s W hM)
  have HRe := hideg hRe
  clear hM hRe
  go_enter Tryd.func4, Tryd.ntmps4
  go_wp2_with fail
  refine HPa.out.mono ?_
  rintro e w1 ⟨v1, rfl, hv1, hb1⟩
  obtain ⟨xa, xc, ya, yc, rfl, hg1, _, _⟩ := hv1.gat
  have HG1 := hideg hg1
  have HB1 := hideg hb1
  clear hv1 hg1 hb1
  go_wp2_with fail
  refine (HRe.out _).mono ?_
  rintro e w2 ⟨v2, rfl, hv2, hb2⟩
  obtain ⟨xb, xd, yb, yd, rfl, hg2, _, _⟩ := hv2.gat
  have HB2 := hideg (ptg (ptg HB1.out (gal w1 _)) hb2)
  have b0 : w2.cell? ⟨w1.heap.size, 0, none⟩ = some (.int .i64 (parse s.data.toList).1.hor) := by rw [hb2.cell (p := ⟨w1.heap.size, 0, none⟩) (by simp)]; simp
  have b1 : w2.cell? ⟨w1.heap.size, 1, none⟩ = some (.slice xa (parse s.data.toList).1.lives.length xc) := by rw [hb2.cell (p := ⟨w1.heap.size, 1, none⟩) (by simp)]; simp
  have b2 : w2.cell? ⟨w1.heap.size, 2, none⟩ = some (.slice ya (parse s.data.toList).1.edges.length yc) := by rw [hb2.cell (p := ⟨w1.heap.size, 2, none⟩) (by simp)]; simp
  have hz2 : w1.heap.size < w2.heap.size := by have := hb2.size; simp at this; omega
  have HSm := hideg (fun o => Same_any (parse s.data.toList).1 xa ya xb yb xc yc xd yd (w2.alloc o) (HG1.out.below (ptg (ptg (gal w1 _) hb2) (gal w2 o))) (hg2.below (gal w2 o)))
  have HB3 := hideg (fun o => ptg HB2.out (gal w2 o))
  clear hv2 hg2 hb2
  generalize (parse s.data.toList).1 = gp at *
  generalize (parse s.data.toList).2.1 = ap at *
  generalize (parse s.data.toList).2.2 = ep at *
  go_wp2_with fail
  refine (HSm.out _).mono ?_
  rintro e w3 ⟨rfl, hb3⟩
  have HB4 := hideg (ptg (HB3.out _) hb3)
  clear hb3
  go_wp2
  go_ret
  exact ⟨rfl, HB4.out⟩

end Go.Proofs.YtjjhhmlogddnkaaDoor
