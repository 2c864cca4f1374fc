/-
  The law GraphBack, walked.
-/
import Derived.Test.YtjjhhmlogddnkaeDoorGPrint
import Derived.Test.YtjjhhmlogddnkaeDoorPRead
import Derived.Test.YtjjhhmlogddnkaeDoorSame
namespace Go.Proofs.YtjjhhmlogddnkaeDoor
open Go.RowKit

theorem parse_err {s : List UInt8} (h : (parse s).2.2 ≠ 0) : (parse s).1 = g0 ∧ 0 ≤ (parse s).2.1 := by
  unfold parse at h ⊢
  split
  · exact ⟨rfl, by simp⟩
  · rename_i hs
    rw [if_neg hs] at h
    cases e : rdP g0 1 true (sp 10 s) with
    | inr n => exact ⟨rfl, by simp⟩
    | inl g =>
      rw [e] at h
      simp only at h ⊢
      split
      · rename_i h0; rw [if_pos h0] at h; exact absurd rfl h
      · exact ⟨rfl, by simp⟩
/-- the graph that the law prints first -/
def gx : Gr := ⟨5, [(0, 5)], []⟩
theorem gx_chk : gChk gx = 0 := by decide
theorem gx_out : gOut gx = [116, 105, 109, 101, 32, 53, 10, 118, 101, 114, 116, 101, 120, 32, 48, 32, 53, 10] := by
  have h5 : Lib.itoa 5 = [53] := by rw [itoa_nat (by omega)]; exact Lib.decDigits_one (by decide)
  have h0 : Lib.itoa 0 = [48] := by rw [itoa_nat (by omega)]; exact Lib.decDigits_one (by decide)
  unfold gOut
  rw [if_pos gx_chk]
  simp [gText, gx, line, lvText, wTime, wVertex, h5, h0]

set_option linter.unusedSimpArgs false in
set_option maxRecDepth 100000 in
set_option maxHeartbeats 8000000 in
theorem back_walk (g : Gr) (la ea : Option Addr) (lc ec : Nat) (s : ByteArray) (W : World) (hG : GAt W la ea g) (hT : Tab W) (hM : Ml W.heap.size W) :
    Calls Tryd.prog 3 #[.agg #[.int .i64 g.hor, .slice la g.lives.length lc, .slice ea g.edges.length ec], .string s] W fun e W' => e = .returned (.bool true) ∧ Below W.heap.size W W' := by
  have HG := hideg (fun w' (h : Below W.heap.size W w') => hG.below h)
  have HTab := hideg (fun w' (h : Below W.heap.size W w') => (hT.low.below h).tab)
  have HMl : Hid (∀ w', Below W.heap.size W w' → Ml w'.heap.size w') := fun w' h => (hM.below h).mono h.size
  have HParse := hideg (fun w' (h : Below W.heap.size W w') => Parse_any s w' (HMl.out w' h))
  have HErr := hideg (parse_err (s := s.data.toList))
  have HText : Hid ((parse s.data.toList).2.2 = 0 → gChk (parse s.data.toList).1 = 0 ∧ (⟨(gOut (parse s.data.toList).1).toArray⟩ : ByteArray) = s) := fun h => by
    obtain ⟨h1, h2, _⟩ := parse_text (s := s.data.toList) (g := (parse s.data.toList).1) (a := (parse s.data.toList).2.1) (by rw [← h])
    refine ⟨h2, ?_⟩
    unfold gOut
    rw [if_pos h2, h1]
  have HPx := hideg (fun w' (h : Below W.heap.size W w') a (hx : GAt w' (some a) none gx) => Print_any gx (some a) none 1 0 w' hx (HTab.out w' h))
  rw [gx_out, gx_chk] at HPx
  clear hG hT hM
  go_enter Tryd.func3, Tryd.ntmps3
  go_wp2_with fail
  have hxx : ∀ o, GAt ((W.alloc o).alloc (.cells #[.int .i64 0, .int .i64 5] 30)) (some ⟨W.heap.size + 1, 0, none⟩) none gx := fun o => by
    refine ⟨.inr ⟨W.heap.size + 1, 0, rfl, by simp, fun j hj => ?_⟩, .inl rfl, by simp [gx], by simp [gx]⟩
    have : j = 0 := by simp [gx] at hj; exact hj
    subst this
    simp [gx]
  refine (HPx.out _ (ptg (gal W _) (gal _ _)) _ (hxx _)).mono ?_
  rintro e w2 ⟨rfl, hb2'⟩
  have HB2 := hideg (ptg (ptg (gal W _) (gal _ _)) hb2')
  have p0 : w2.cell? ⟨W.heap.size, 0, none⟩ = some (.int .i64 g.hor) := by rw [hb2'.cell (p := ⟨W.heap.size, 0, none⟩) (by simp; omega)]; simp
  have p1 : w2.cell? ⟨W.heap.size, 1, none⟩ = some (.slice la g.lives.length lc) := by rw [hb2'.cell (p := ⟨W.heap.size, 1, none⟩) (by simp; omega)]; simp
  have p2 : w2.cell? ⟨W.heap.size, 2, none⟩ = some (.slice ea g.edges.length ec) := by rw [hb2'.cell (p := ⟨W.heap.size, 2, none⟩) (by simp; omega)]; simp
  have hz2 : W.heap.size < w2.heap.size := by have := hb2'.size; simp at this; omega
  clear hb2' hxx HPx
  have HPg := hideg (Print_any g la ea lc ec w2 (HG.out w2 HB2.out) (HTab.out w2 HB2.out))
  go_wp2_with fail
  refine HPg.out.mono ?_
  rintro e w3 ⟨rfl, hb3⟩
  have HB3 := hideg (ptg HB2.out hb3)
  have HBb := hideg hb3
  clear hb3 HPg
  by_cases h0 : gChk g = 0
  · have HO : Hid (gOut g = gText g) := by show _ = _; unfold gOut; rw [if_pos h0]
    have HPP := hideg (Parse_any ⟨(gText g).toArray⟩ w3 (HMl.out w3 HB3.out))
    have e1 : (⟨(gText g).toArray⟩ : ByteArray).data.toList = gText g := rfl
    rw [e1, parse_print h0] at HPP
    rw [HO.out, h0]
    clear h0 e1 HO
    go_wp2_with fail
    refine HPP.out.mono ?_
    rintro e w4 ⟨v, rfl, hv, hb4⟩
    have HB4 := hideg (ptg HB3.out hb4)
    obtain ⟨xa, xc, ya, yc, rfl, hgx, _, _⟩ := hv.gat
    have HS := hideg (fun o => Same_any g xa ya la ea xc yc lc ec (w4.alloc o) (hgx.below (gal w4 o)) (HG.out _ (ptg HB4.out (gal w4 o))))
    have q0 := ((ptg HBb.out hb4).cell (p := ⟨W.heap.size, 0, none⟩) hz2).trans p0
    have q1 := ((ptg HBb.out hb4).cell (p := ⟨W.heap.size, 1, none⟩) hz2).trans p1
    have q2 := ((ptg HBb.out hb4).cell (p := ⟨W.heap.size, 2, none⟩) hz2).trans p2
    have hz4 : W.heap.size < w4.heap.size := Nat.lt_of_lt_of_le hz2 (ptg HBb.out hb4).size
    clear hv hgx hb4 p0 p1 p2 HPP
    go_wp2_with fail
    refine (HS.out _).mono ?_
    rintro e w5 ⟨rfl, hb5⟩
    have HB5 := hideg (ptg HB4.out (ptg (gal w4 _) hb5))
    clear hb5 q0 q1 q2 HS
    go_wp2_with fail
    refine (HParse.out w5 HB5.out).mono ?_
    rintro e w6 ⟨v, rfl, hv, hb6⟩
    have HB6 := hideg (ptg HB5.out hb6)
    obtain ⟨xa, xc, ya, yc, rfl, hgx, _, _⟩ := hv.gat
    have HGX := hideg hgx
    clear hv hgx hb6
    by_cases he : (parse s.data.toList).2.2 = 0
    · obtain ⟨t1, t2⟩ := HText.out he
      rw [he]
      have HPr := hideg (fun o => Print_any (parse s.data.toList).1 xa ya xc yc (w6.alloc o) (HGX.out.below (gal w6 o)) (HTab.out _ (ptg HB6.out (gal w6 o))))
      generalize (parse s.data.toList).1 = gs at *
      rw [t1, t2] at HPr
      clear t1 t2 he
      go_wp2_with fail
      refine (HPr.out _).mono ?_
      rintro e w7 ⟨rfl, hb7⟩
      have HB7 := hideg (ptg HB6.out (ptg (gal w6 _) hb7))
      clear hb7
      go_wp2
      go_ret
      exact ⟨rfl, HB7.out⟩
    · obtain ⟨t1, t2⟩ := HErr.out he
      rw [t1]
      have HB7 := hideg (fun o => ptg HB6.out (gal w6 o))
      clear t1
      go_wp2
      go_ret
      exact ⟨rfl, HB7.out _⟩
  · clear p0 p1 p2
    go_wp2_with fail
    refine (HParse.out w3 HB3.out).mono ?_
    rintro e w6 ⟨v, rfl, hv, hb6⟩
    have HB6 := hideg (ptg HB3.out hb6)
    obtain ⟨xa, xc, ya, yc, rfl, hgx, _, _⟩ := hv.gat
    have HGX := hideg hgx
    clear hv hgx hb6
    by_cases he : (parse s.data.toList).2.2 = 0
    · obtain ⟨t1, t2⟩ := HText.out he
      rw [he]
      have HPr := hideg (fun o => Print_any (parse s.data.toList).1 xa ya xc yc (w6.alloc o) (HGX.out.below (gal w6 o)) (HTab.out _ (ptg HB6.out (gal w6 o))))
      generalize (parse s.data.toList).1 = gs at *
      rw [t1, t2] at HPr
      clear t1 t2 he
      go_wp2_with fail
      refine (HPr.out _).mono ?_
      rintro e w7 ⟨rfl, hb7⟩
      have HB7 := hideg (ptg HB6.out (ptg (gal w6 _) hb7))
      clear hb7
      go_wp2
      go_ret
      exact ⟨rfl, HB7.out⟩
    · obtain ⟨t1, t2⟩ := HErr.out he
      rw [t1]
      have HB7 := hideg (fun o => ptg HB6.out (gal w6 o))
      clear t1
      go_wp2
      go_ret
      exact ⟨rfl, HB7.out _⟩

end Go.Proofs.YtjjhhmlogddnkaeDoor
