/-
  Graphs as bytes, there and back: plain mathematics.
-/
import Derived.Test.YteibdmfcclkjpahPkDMath
namespace Go.Proofs.Yteibdmfcclkjpah

/-! what is written is read -/
theorem code1_get {n : Int} (h : 0 ≤ n ∧ n < 65536) : ((code1 n).getD 0 0).toNat * 256 + ((code1 n).getD 1 0).toNat = n.toNat := by
  show (UInt8.ofNat (n.toNat / 256)).toNat * 256 + (UInt8.ofNat (n.toNat % 256)).toNat = n.toNat
  rw [UInt8.toNat_ofNat', UInt8.toNat_ofNat']
  omega
theorem nx_read {s : List UInt8} {k : Nat} {n : Int} {ns : List Int} {rest : List UInt8} {most : Int} (h : s.drop k = codeL (n :: ns) ++ rest) (hn : 0 ≤ n ∧ n < 65536) (hm : n ≤ most) : nx s (k, 0) most = ((k + 2, 0), n) ∧ s.drop (k + 2) = codeL ns ++ rest := by
  have hc : codeL (n :: ns) ++ rest = code1 n ++ (codeL ns ++ rest) := by unfold codeL; rw [List.flatMap_cons, List.append_assoc]
  rw [hc] at h
  have hl : k + 2 ≤ s.length := by
    have := congrArg List.length h
    simp [code1] at this
    omega
  have hd : s.drop (k + 2) = codeL ns ++ rest := by
    rw [← List.drop_drop, h]; rfl
  have ha : at2 s k = n.toNat := by
    have e : ∀ j, j < 2 → s.getD (k + j) 0 = (code1 n).getD j 0 := fun j hj => by
      rw [List.getD_eq_getElem?_getD, List.getD_eq_getElem?_getD, ← List.getElem?_drop, h, List.getElem?_append_left (by simpa [code1] using hj)]
    unfold at2
    rw [e 1 (by omega), ← code1_get hn]
    have := e 0 (by omega)
    rw [Nat.add_zero] at this
    rw [this]
  refine ⟨?_, hd⟩
  unfold nx
  rw [if_pos rfl, if_pos hl, ha, if_neg (by omega)]
  simp only [Prod.mk.injEq, true_and]
  omega
theorem rdLv_read {s : List UInt8} {k : Nat} {lv : List (Int × Int)} {ns : List Int} {rest : List UInt8} (h : s.drop k = codeL (lv.flatMap numLv ++ ns) ++ rest) (hr : ∀ p ∈ lv, (0 ≤ p.1 ∧ p.1 < 65536) ∧ (0 ≤ p.2 ∧ p.2 < 65536)) : ∀ m, m ≤ lv.length → rdLv s (k, 0) m = ((k + 4 * m, 0), lv.take m) ∧ s.drop (k + 4 * m) = codeL ((lv.drop m).flatMap numLv ++ ns) ++ rest
  | 0, _ => ⟨by simp [rdLv], by simpa using h⟩
  | m + 1, hm => by
    obtain ⟨h1, h2⟩ := rdLv_read h hr m (by omega)
    have hp := hr _ (List.getElem_mem (show m < lv.length by omega))
    rw [List.drop_eq_getElem_cons (show m < lv.length by omega), List.flatMap_cons] at h2
    obtain ⟨e1, d1⟩ := nx_read (n := lv[m].1) (ns := lv[m].2 :: ((lv.drop (m + 1)).flatMap numLv ++ ns)) (most := 65535) (by simpa [numLv] using h2) hp.1 (by omega)
    obtain ⟨e2, d2⟩ := nx_read (most := 65535) d1 hp.2 (by omega)
    refine ⟨?_, by rw [show k + 4 * (m + 1) = k + 4 * m + 2 + 2 by omega]; exact d2⟩
    rw [rdLv, h1, e1, e2, List.take_succ_eq_append_getElem (show m < lv.length by omega)]
    rfl
theorem rdLg_read {s : List UInt8} {k : Nat} {lg : List Lg} {ns : List Int} {rest : List UInt8} (h : s.drop k = codeL (lg.flatMap numLg ++ ns) ++ rest) (hr : ∀ l ∈ lg, (0 ≤ l.1 ∧ l.1 < 65536) ∧ (0 ≤ l.2.1 ∧ l.2.1 < 65536) ∧ (0 ≤ l.2.2.1 ∧ l.2.2.1 < 65536) ∧ (0 ≤ l.2.2.2 ∧ l.2.2.2 < 65536)) : ∀ m, m ≤ lg.length → rdLg s (k, 0) m = ((k + 8 * m, 0), lg.take m) ∧ s.drop (k + 8 * m) = codeL ((lg.drop m).flatMap numLg ++ ns) ++ rest
  | 0, _ => ⟨by simp [rdLg], by simpa using h⟩
  | m + 1, hm => by
    obtain ⟨h1, h2⟩ := rdLg_read h hr m (by omega)
    have hp := hr _ (List.getElem_mem (show m < lg.length by omega))
    rw [List.drop_eq_getElem_cons (show m < lg.length by omega), List.flatMap_cons] at h2
    obtain ⟨e1, d1⟩ := nx_read (n := lg[m].1) (ns := lg[m].2.1 :: lg[m].2.2.1 :: lg[m].2.2.2 :: ((lg.drop (m + 1)).flatMap numLg ++ ns)) (most := 65535) (by simpa [numLg] using h2) hp.1 (by omega)
    obtain ⟨e2, d2⟩ := nx_read (most := 65535) d1 hp.2.1 (by omega)
    obtain ⟨e3, d3⟩ := nx_read (most := 65535) d2 hp.2.2.1 (by omega)
    obtain ⟨e4, d4⟩ := nx_read (most := 65535) d3 hp.2.2.2 (by omega)
    refine ⟨?_, by rw [show k + 8 * (m + 1) = k + 8 * m + 2 + 2 + 2 + 2 by omega]; exact d4⟩
    rw [rdLg, h1]
    unfold rd1
    simp only
    rw [e1, e2, e3, e4, List.take_succ_eq_append_getElem (show m < lg.length by omega)]
    rfl
theorem rdE_read {s : List UInt8} {k : Nat} {e : Ed} {ns : List Int} {rest : List UInt8} (h : s.drop k = codeL (numEd e ++ ns) ++ rest) (ha : 0 ≤ e.1 ∧ e.1 < 65536) (hb : 0 ≤ e.2.1 ∧ e.2.1 < 65536) (hl : e.2.2.length ≤ 6) (hr : ∀ l ∈ e.2.2, (0 ≤ l.1 ∧ l.1 < 65536) ∧ (0 ≤ l.2.1 ∧ l.2.1 < 65536) ∧ (0 ≤ l.2.2.1 ∧ l.2.2.1 < 65536) ∧ (0 ≤ l.2.2.2 ∧ l.2.2.2 < 65536)) : ∃ k', rdE s (k, 0) = ((k', 0), e) ∧ s.drop k' = codeL ns ++ rest := by
  obtain ⟨A, B, legs⟩ := e
  simp only at ha hb hl hr
  obtain ⟨e1, d1⟩ := nx_read (n := A) (ns := B :: (legs.length : Int) :: (legs.flatMap numLg ++ ns)) (most := 65535) (by simpa [numEd] using h) ha (by omega)
  obtain ⟨e2, d2⟩ := nx_read (most := 65535) d1 hb (by omega)
  obtain ⟨e3, d3⟩ := nx_read (most := 6) d2 (by omega) (by omega)
  obtain ⟨e4, d4⟩ := rdLg_read d3 hr legs.length (Nat.le_refl _)
  refine ⟨_, ?_, by simpa using d4⟩
  unfold rdE rdM rdB rdA
  rw [e1, e2, e3]
  simp only [Int.toNat_natCast]
  rw [e4, List.take_length]
theorem rdEs_read {s : List UInt8} {k : Nat} {es : List Ed} {ns : List Int} {rest : List UInt8} (h : s.drop k = codeL (es.flatMap numEd ++ ns) ++ rest) (hr : ∀ e ∈ es, (0 ≤ e.1 ∧ e.1 < 65536) ∧ (0 ≤ e.2.1 ∧ e.2.1 < 65536) ∧ e.2.2.length ≤ 6 ∧ ∀ l ∈ e.2.2, (0 ≤ l.1 ∧ l.1 < 65536) ∧ (0 ≤ l.2.1 ∧ l.2.1 < 65536) ∧ (0 ≤ l.2.2.1 ∧ l.2.2.1 < 65536) ∧ (0 ≤ l.2.2.2 ∧ l.2.2.2 < 65536)) : ∀ m, m ≤ es.length → ∃ k', rdEs s (k, 0) m = ((k', 0), es.take m) ∧ s.drop k' = codeL ((es.drop m).flatMap numEd ++ ns) ++ rest
  | 0, _ => ⟨k, by simp [rdEs], by simpa using h⟩
  | m + 1, hm => by
    obtain ⟨k1, h1, h2⟩ := rdEs_read h hr m (by omega)
    obtain ⟨p1, p2, p3, p4⟩ := hr _ (List.getElem_mem (show m < es.length by omega))
    rw [List.drop_eq_getElem_cons (show m < es.length by omega), List.flatMap_cons, List.append_assoc] at h2
    obtain ⟨k2, e1, d1⟩ := rdE_read h2 p1 p2 p3 p4
    refine ⟨k2, ?_, d1⟩
    rw [rdEs, h1, e1, List.take_succ_eq_append_getElem (show m < es.length by omega)]

theorem rdG_read {g : Gr} (R : Right g) (rest : List UInt8) : rdG (codeL (nums g) ++ rest) = (((codeL (nums g)).length, 0), g) := by
  have h1 := R.hor
  have h2 := R.lvs
  have h3 := R.eds
  generalize hs : codeL (nums g) ++ rest = s
  obtain ⟨e1, d1⟩ := nx_read (s := s) (k := 0) (n := g.hor) (ns := (g.lives.length : Int) :: (g.edges.length : Int) :: (g.lives.flatMap numLv ++ g.edges.flatMap numEd)) (rest := rest) (most := 65535) (by rw [← hs]; simp [nums, numHd]) (by omega) (by omega)
  obtain ⟨e2, d2⟩ := nx_read (most := 12) d1 (by omega) (by omega)
  obtain ⟨e3, d3⟩ := nx_read (most := 30) d2 (by omega) (by omega)
  obtain ⟨e4, d4⟩ := rdLv_read d3 (fun p hp => by have := R.life p hp; omega) g.lives.length (Nat.le_refl _)
  rw [List.drop_length, List.flatMap_nil, List.nil_append] at d4
  obtain ⟨k5, e5, d5⟩ := rdEs_read (es := g.edges) (ns := []) (rest := rest) (by rw [List.append_nil (g.edges.flatMap numEd)]; exact d4) (fun e he => by
    have h4 := R.ends e he
    exact ⟨by omega, by omega, h4.2.2, fun l hl => by have h5 := (fitB_iff _ _).1 (R.legs e he l hl); omega⟩) g.edges.length (Nat.le_refl _)
  have hk : k5 = (codeL (nums g)).length := by
    have h6 := congrArg List.length d5
    have h7 := congrArg List.length hs
    rw [List.length_drop] at h6
    rw [List.length_append] at h7
    simp [codeL] at h6
    have h8 := congrArg List.length d4
    rw [List.length_drop, List.length_append] at h8
    have hnl : (nums g).length = 3 + (2 * g.lives.length + (g.edges.flatMap numEd).length) := by unfold nums numHd; rw [List.length_append, List.length_append, flat2_len]; rfl
    have h10 := codeL_len (nums g)
    have h9 := rdEs_at (s := s) (st := (0 + 2 + 2 + 2 + 4 * g.lives.length, 0)) (by simp only; omega) g.edges.length
    rw [e5] at h9
    simp only at h9
    omega
  unfold rdG rdLs hdK hdV hdH
  rw [e1, e2, e3]
  simp only [Int.toNat_natCast]
  rw [e4]
  simp only
  rw [e5, List.take_length, List.take_length, hk]
theorem coded_len (g : Gr) : (coded g).length = (codeL (nums g)).length + 4 := by unfold coded; rw [List.length_append, sum4_len]
/-- A graph is read as it was, whatever stands behind. -/
theorem dec_coded {g : Gr} (h0 : gChk g = 0) (more : List UInt8) : decA (coded g ++ more) = (g, ((coded g).length : Int), 0) := by
  have e := rdG_read (gChk_right h0) (sum4 (sumL (codeL (nums g))) 4 ++ more)
  have hc : coded g ++ more = codeL (nums g) ++ (sum4 (sumL (codeL (nums g))) 4 ++ more) := by unfold coded; rw [List.append_assoc]
  unfold decA
  rw [hc, e]
  simp only
  rw [if_pos trivial, if_pos (by simp [sum4_len]), List.drop_left, List.take_left' (sum4_len _ _), List.take_left, if_pos rfl, if_pos h0, coded_len]

/-! what is read is written as just those bytes -/
theorem nx_zero {s : List UInt8} {st : Nat × Int} {most : Int} (h : (nx s st most).1.2 = 0) : st.2 = 0 ∧ (nx s st most).1.1 = st.1 + 2 ∧ (nx s st most).1.1 ≤ s.length ∧ s.take (nx s st most).1.1 = s.take st.1 ++ code1 (nx s st most).2 := by
  unfold nx at h ⊢
  split
  · rename_i h1
    rw [if_pos h1] at h
    split
    · rename_i h2
      rw [if_pos h2] at h
      split
      · rename_i h3
        rw [if_pos h3] at h
        simp at h
      · refine ⟨h1, rfl, h2, ?_⟩
        simp only
        rw [List.take_succ_eq_append_getElem (show st.1 + 1 < s.length by omega), List.take_succ_eq_append_getElem (show st.1 < s.length by omega), List.append_assoc]
        congr 1
        unfold code1 at2
        rw [List.getD_eq_getElem?_getD, List.getD_eq_getElem?_getD, List.getElem?_eq_getElem (show st.1 < s.length by omega), List.getElem?_eq_getElem (show st.1 + 1 < s.length by omega)]
        simp only [Option.getD_some, Int.toNat_natCast]
        have b0 := s[st.1].toNat_lt
        have b1 := s[st.1 + 1].toNat_lt
        rw [show (s[st.1].toNat * 256 + s[st.1 + 1].toNat) / 256 = s[st.1].toNat by omega, show (s[st.1].toNat * 256 + s[st.1 + 1].toNat) % 256 = s[st.1 + 1].toNat by omega]
        simp
    · rename_i h2
      rw [if_neg h2] at h
      simp at h
  · rename_i h1
    rw [if_neg h1] at h
    exact absurd h h1
theorem codeL_app (a b : List Int) : codeL (a ++ b) = codeL a ++ codeL b := by unfold codeL; rw [List.flatMap_append]
theorem codeL_one (n : Int) : codeL [n] = code1 n := by simp [codeL]
theorem rdLv_zero {s : List UInt8} {st : Nat × Int} : ∀ m, (rdLv s st m).1.2 = 0 → st.2 = 0 ∧ s.take (rdLv s st m).1.1 = s.take st.1 ++ codeL ((rdLv s st m).2.flatMap numLv)
  | 0, h => ⟨h, by simp [rdLv, codeL]⟩
  | m + 1, h => by
    obtain ⟨a1, _, _, a4⟩ := nx_zero (s := s) (st := (nx s (rdLv s st m).1 65535).1) (most := 65535) h
    obtain ⟨b1, _, _, b4⟩ := nx_zero (s := s) (st := (rdLv s st m).1) (most := 65535) a1
    obtain ⟨c1, c2⟩ := rdLv_zero m b1
    refine ⟨c1, ?_⟩
    show s.take (nx s (nx s (rdLv s st m).1 65535).1 65535).1.1 = s.take st.1 ++ codeL (((rdLv s st m).2 ++ [_]).flatMap numLv)
    rw [a4, b4, c2, List.flatMap_append, codeL_app, List.append_assoc, List.append_assoc]
    simp [numLv, codeL]
theorem rd1_zero {s : List UInt8} {st : Nat × Int} (h : (rd1 s st).1.2 = 0) : st.2 = 0 ∧ s.take (rd1 s st).1.1 = s.take st.1 ++ codeL (numLg (rd1 s st).2) := by
  obtain ⟨a1, _, _, a4⟩ := nx_zero (s := s) (most := 65535) h
  obtain ⟨b1, _, _, b4⟩ := nx_zero (s := s) (most := 65535) a1
  obtain ⟨c1, _, _, c4⟩ := nx_zero (s := s) (most := 65535) b1
  obtain ⟨d1, _, _, d4⟩ := nx_zero (s := s) (most := 65535) c1
  refine ⟨d1, ?_⟩
  show s.take (nx s (nx s (nx s (nx s st 65535).1 65535).1 65535).1 65535).1.1 = _
  rw [a4, b4, c4, d4]
  simp [rd1, numLg, codeL]
theorem rdLg_zero {s : List UInt8} {st : Nat × Int} : ∀ m, (rdLg s st m).1.2 = 0 → st.2 = 0 ∧ s.take (rdLg s st m).1.1 = s.take st.1 ++ codeL ((rdLg s st m).2.flatMap numLg)
  | 0, h => ⟨h, by simp [rdLg, codeL]⟩
  | m + 1, h => by
    obtain ⟨a1, a2⟩ := rd1_zero (s := s) (st := (rdLg s st m).1) h
    obtain ⟨c1, c2⟩ := rdLg_zero m a1
    refine ⟨c1, ?_⟩
    show s.take (rd1 s (rdLg s st m).1).1.1 = s.take st.1 ++ codeL (((rdLg s st m).2 ++ [(rd1 s (rdLg s st m).1).2]).flatMap numLg)
    rw [a2, c2, List.flatMap_append, codeL_app, List.append_assoc]
    simp
theorem rdE_zero {s : List UInt8} {st : Nat × Int} (h : (rdE s st).1.2 = 0) : st.2 = 0 ∧ s.take (rdE s st).1.1 = s.take st.1 ++ codeL (numEd (rdE s st).2) := by
  obtain ⟨a1, a2⟩ := rdLg_zero (s := s) (rdM s st).2.toNat h
  obtain ⟨b1, _, _, b4⟩ := nx_zero (s := s) (most := 6) a1
  obtain ⟨c1, _, _, c4⟩ := nx_zero (s := s) (most := 65535) b1
  obtain ⟨d1, _, _, d4⟩ := nx_zero (s := s) (most := 65535) c1
  refine ⟨d1, ?_⟩
  have hm := nx_range (s := s) (st := (rdB s st).1) (most := 6) (by omega)
  have hl : ((rdLg s (rdM s st).1 (rdM s st).2.toNat).2.length : Int) = (rdM s st).2 := by rw [rdLg_len]; exact Int.toNat_of_nonneg hm.1
  show s.take (rdLg s (rdM s st).1 (rdM s st).2.toNat).1.1 = s.take st.1 ++ codeL ([(rdA s st).2, (rdB s st).2, ((rdLg s (rdM s st).1 (rdM s st).2.toNat).2.length : Int)] ++ (rdLg s (rdM s st).1 (rdM s st).2.toNat).2.flatMap numLg)
  rw [hl, a2, codeL_app]
  have e1 : s.take (rdM s st).1.1 = s.take (rdB s st).1.1 ++ code1 (rdM s st).2 := b4
  have e2 : s.take (rdB s st).1.1 = s.take (rdA s st).1.1 ++ code1 (rdB s st).2 := c4
  have e3 : s.take (rdA s st).1.1 = s.take st.1 ++ code1 (rdA s st).2 := d4
  rw [e1, e2, e3]
  simp [codeL]
theorem rdEs_zero {s : List UInt8} {st : Nat × Int} : ∀ m, (rdEs s st m).1.2 = 0 → st.2 = 0 ∧ s.take (rdEs s st m).1.1 = s.take st.1 ++ codeL ((rdEs s st m).2.flatMap numEd)
  | 0, h => ⟨h, by simp [rdEs, codeL]⟩
  | m + 1, h => by
    obtain ⟨a1, a2⟩ := rdE_zero (s := s) (st := (rdEs s st m).1) h
    obtain ⟨c1, c2⟩ := rdEs_zero m a1
    refine ⟨c1, ?_⟩
    show s.take (rdE s (rdEs s st m).1).1.1 = s.take st.1 ++ codeL (((rdEs s st m).2 ++ [(rdE s (rdEs s st m).1).2]).flatMap numEd)
    rw [a2, c2, List.flatMap_append, codeL_app, List.append_assoc]
    simp
theorem rdG_zero {s : List UInt8} (h : (rdG s).1.2 = 0) : s.take (rdG s).1.1 = codeL (nums (rdG s).2) := by
  obtain ⟨a1, a2⟩ := rdEs_zero (s := s) (hdK s).2.toNat h
  obtain ⟨b1, b2⟩ := rdLv_zero (s := s) (hdV s).2.toNat a1
  obtain ⟨c1, _, _, c4⟩ := nx_zero (s := s) (most := 30) b1
  obtain ⟨d1, _, _, d4⟩ := nx_zero (s := s) (most := 12) c1
  obtain ⟨_, _, _, e4⟩ := nx_zero (s := s) (most := 65535) d1
  have hv := nx_range (s := s) (st := (hdH s).1) (most := 12) (by omega)
  have hk := nx_range (s := s) (st := (hdV s).1) (most := 30) (by omega)
  have l1 : ((rdLs s).2.length : Int) = (hdV s).2 := by unfold rdLs; rw [rdLv_len]; exact Int.toNat_of_nonneg hv.1
  have l2 : ((rdEs s (rdLs s).1 (hdK s).2.toNat).2.length : Int) = (hdK s).2 := by rw [rdEs_len]; exact Int.toNat_of_nonneg hk.1
  have f1 : s.take (hdK s).1.1 = s.take (hdV s).1.1 ++ code1 (hdK s).2 := c4
  have f2 : s.take (hdV s).1.1 = s.take (hdH s).1.1 ++ code1 (hdV s).2 := d4
  have f3 : s.take (hdH s).1.1 = s.take 0 ++ code1 (hdH s).2 := e4
  have f4 : s.take (rdLs s).1.1 = s.take (hdK s).1.1 ++ codeL ((rdLs s).2.flatMap numLv) := b2
  show s.take (rdEs s (rdLs s).1 (hdK s).2.toNat).1.1 = codeL ([(hdH s).2, ((rdLs s).2.length : Int), ((rdEs s (rdLs s).1 (hdK s).2.toNat).2.length : Int)] ++ ((rdLs s).2.flatMap numLv ++ (rdEs s (rdLs s).1 (hdK s).2.toNat).2.flatMap numEd))
  rw [l1, l2, a2, f4, f1, f2, f3, codeL_app, codeL_app]
  simp [codeL]
/-- What is read is written as just those bytes. -/
theorem dec_ok {s : List UInt8} {g : Gr} {n : Int} (h : decA s = (g, n, 0)) : gChk g = 0 ∧ n = ((coded g).length : Int) ∧ (coded g).length ≤ s.length ∧ coded g = s.take (coded g).length := by
  unfold decA at h
  split at h
  · rename_i h1
    split at h
    · rename_i h2
      split at h
      · rename_i h3
        split at h
        · rename_i h4
          simp only [Prod.mk.injEq, and_true] at h
          obtain ⟨hg, hn⟩ := h
          have hz := rdG_zero h1
          rw [hg] at hz h4
          have hc : coded g = s.take ((rdG s).1.1 + 4) := by
            unfold coded
            rw [← hz, ← h3]
            have := List.take_add (l := s) (i := (rdG s).1.1) (j := 4)
            rw [this]
          have hl : (coded g).length = (rdG s).1.1 + 4 := by rw [hc, List.length_take]; omega
          refine ⟨h4, by rw [← hn, hl], by omega, by rw [hl]; exact hc⟩
        · rename_i h4
          simp only [Prod.mk.injEq] at h
          exact absurd h.2.2 h4
      · simp at h
    · simp at h
  · rename_i h1
    simp only [Prod.mk.injEq] at h
    exact absurd h.2.2 h1

/-! a beginning is none -/
theorem nx_five {s : List UInt8} {st : Nat × Int} (most : Int) (h : st.2 = 5) : (nx s st most).1.2 = 5 := by
  unfold nx
  rw [if_neg (by omega)]; exact h
theorem nx_pre (l : List UInt8) (r : Nat) (st : Nat × Int) (most : Int) : (nx (l.take r) st most).1.2 = 5 ∨ nx (l.take r) st most = nx l st most := by
  unfold nx
  by_cases h1 : st.2 = 0
  · rw [if_pos h1, if_pos h1]
    by_cases h2 : st.1 + 2 ≤ (l.take r).length
    · rw [if_pos h2]
      rw [List.length_take] at h2
      have ha : at2 (l.take r) st.1 = at2 l st.1 := by
        unfold at2
        rw [List.getD_eq_getElem?_getD, List.getD_eq_getElem?_getD, List.getElem?_take_of_lt (by omega), List.getElem?_take_of_lt (by omega), ← List.getD_eq_getElem?_getD, ← List.getD_eq_getElem?_getD]
      rw [ha, if_pos (show st.1 + 2 ≤ l.length by omega)]
      exact .inr rfl
    · rw [if_neg h2]; exact .inl rfl
  · rw [if_neg h1, if_neg h1]; exact .inr rfl
theorem rdLv_pre (l : List UInt8) (r : Nat) (st : Nat × Int) : ∀ m, (rdLv (l.take r) st m).1.2 = 5 ∨ rdLv (l.take r) st m = rdLv l st m
  | 0 => .inr rfl
  | m + 1 => by
    rcases rdLv_pre l r st m with h | h
    · exact .inl (nx_five _ (nx_five _ h))
    · unfold rdLv
      rw [h]
      rcases nx_pre l r (rdLv l st m).1 65535 with h2 | h2
      · exact .inl (nx_five _ h2)
      · rw [h2]
        rcases nx_pre l r (nx l (rdLv l st m).1 65535).1 65535 with h3 | h3
        · exact .inl h3
        · rw [h3]; exact .inr rfl
theorem rdLv_five {s : List UInt8} {st : Nat × Int} (h : st.2 = 5) : ∀ m, (rdLv s st m).1.2 = 5
  | 0 => h
  | m + 1 => nx_five _ (nx_five _ (rdLv_five h m))
theorem rd1_five {s : List UInt8} {st : Nat × Int} (h : st.2 = 5) : (rd1 s st).1.2 = 5 := nx_five _ (nx_five _ (nx_five _ (nx_five _ h)))
theorem rd1_pre (l : List UInt8) (r : Nat) (st : Nat × Int) : (rd1 (l.take r) st).1.2 = 5 ∨ rd1 (l.take r) st = rd1 l st := by
  unfold rd1
  rcases nx_pre l r st 65535 with h | h
  · exact .inl (nx_five _ (nx_five _ (nx_five _ h)))
  · rw [h]
    rcases nx_pre l r (nx l st 65535).1 65535 with h2 | h2
    · exact .inl (nx_five _ (nx_five _ h2))
    · rw [h2]
      rcases nx_pre l r (nx l (nx l st 65535).1 65535).1 65535 with h3 | h3
      · exact .inl (nx_five _ h3)
      · rw [h3]
        rcases nx_pre l r (nx l (nx l (nx l st 65535).1 65535).1 65535).1 65535 with h4 | h4
        · exact .inl h4
        · rw [h4]; exact .inr rfl
theorem rdLg_five {s : List UInt8} {st : Nat × Int} (h : st.2 = 5) : ∀ m, (rdLg s st m).1.2 = 5
  | 0 => h
  | m + 1 => rd1_five (rdLg_five h m)
theorem rdLg_pre (l : List UInt8) (r : Nat) (st : Nat × Int) : ∀ m, (rdLg (l.take r) st m).1.2 = 5 ∨ rdLg (l.take r) st m = rdLg l st m
  | 0 => .inr rfl
  | m + 1 => by
    rcases rdLg_pre l r st m with h | h
    · exact .inl (rd1_five h)
    · unfold rdLg
      rw [h]
      rcases rd1_pre l r (rdLg l st m).1 with h2 | h2
      · exact .inl h2
      · rw [h2]; exact .inr rfl
theorem rdE_five {s : List UInt8} {st : Nat × Int} (h : st.2 = 5) : (rdE s st).1.2 = 5 := rdLg_five (nx_five _ (nx_five _ (nx_five _ h))) _
theorem rdE_pre (l : List UInt8) (r : Nat) (st : Nat × Int) : (rdE (l.take r) st).1.2 = 5 ∨ rdE (l.take r) st = rdE l st := by
  unfold rdE rdM rdB rdA
  rcases nx_pre l r st 65535 with h | h
  · exact .inl (rdLg_five (nx_five _ (nx_five _ h)) _)
  · rw [h]
    rcases nx_pre l r (nx l st 65535).1 65535 with h2 | h2
    · exact .inl (rdLg_five (nx_five _ h2) _)
    · rw [h2]
      rcases nx_pre l r (nx l (nx l st 65535).1 65535).1 6 with h3 | h3
      · exact .inl (rdLg_five h3 _)
      · rw [h3]
        rcases rdLg_pre l r (nx l (nx l (nx l st 65535).1 65535).1 6).1 (nx l (nx l (nx l st 65535).1 65535).1 6).2.toNat with h4 | h4
        · exact .inl h4
        · rw [h4]; exact .inr rfl
theorem rdEs_five {s : List UInt8} {st : Nat × Int} (h : st.2 = 5) : ∀ m, (rdEs s st m).1.2 = 5
  | 0 => h
  | m + 1 => rdE_five (rdEs_five h m)
theorem rdEs_pre (l : List UInt8) (r : Nat) (st : Nat × Int) : ∀ m, (rdEs (l.take r) st m).1.2 = 5 ∨ rdEs (l.take r) st m = rdEs l st m
  | 0 => .inr rfl
  | m + 1 => by
    rcases rdEs_pre l r st m with h | h
    · exact .inl (rdE_five h)
    · unfold rdEs
      rw [h]
      rcases rdE_pre l r (rdEs l st m).1 with h2 | h2
      · exact .inl h2
      · rw [h2]; exact .inr rfl
theorem rdG_pre (l : List UInt8) (r : Nat) : (rdG (l.take r)).1.2 = 5 ∨ rdG (l.take r) = rdG l := by
  unfold rdG rdLs hdK hdV hdH
  rcases nx_pre l r (0, 0) 65535 with h | h
  · exact .inl (rdEs_five (rdLv_five (nx_five _ (nx_five _ h)) _) _)
  · rw [h]
    rcases nx_pre l r (nx l (0, 0) 65535).1 12 with h2 | h2
    · exact .inl (rdEs_five (rdLv_five (nx_five _ h2) _) _)
    · rw [h2]
      rcases nx_pre l r (nx l (nx l (0, 0) 65535).1 12).1 30 with h3 | h3
      · exact .inl (rdEs_five (rdLv_five h3 _) _)
      · rw [h3]
        rcases rdLv_pre l r (nx l (nx l (nx l (0, 0) 65535).1 12).1 30).1 (nx l (nx l (0, 0) 65535).1 12).2.toNat with h4 | h4
        · exact .inl (rdEs_five h4 _)
        · rw [h4]
          rcases rdEs_pre l r (rdLv l (nx l (nx l (nx l (0, 0) 65535).1 12).1 30).1 (nx l (nx l (0, 0) 65535).1 12).2.toNat).1 (nx l (nx l (nx l (0, 0) 65535).1 12).1 30).2.toNat with h5 | h5
          · exact .inl h5
          · rw [h5]; exact .inr rfl
/-- A beginning of a graph's bytes is none. -/
theorem dec_pre {g : Gr} (h0 : gChk g = 0) {r : Nat} (hr : r < (coded g).length) : (decA ((coded g).take r)).2.2 = 5 := by
  have e : rdG (coded g) = (((codeL (nums g)).length, 0), g) := rdG_read (gChk_right h0) _
  have hl := coded_len g
  unfold decA
  rcases rdG_pre (coded g) r with h | h
  · rw [if_neg (by rw [h]; omega)]; exact h
  · rw [h, e]
    simp only
    rw [if_pos trivial, if_neg (by rw [List.length_take]; omega)]
/-- Other bytes, as many, are not read as this graph. -/
theorem dec_other {g g' : Gr} (h0 : gChk g = 0) {b : List UInt8} (hl : b.length = (coded g).length) (hb : b ≠ coded g) {n : Int} (h : decA b = (g', n, 0)) : g' ≠ g := by
  intro e
  subst e
  obtain ⟨_, _, _, h4⟩ := dec_ok h
  rw [← hl, List.take_length] at h4
  exact hb h4.symm

end Go.Proofs.Yteibdmfcclkjpah
