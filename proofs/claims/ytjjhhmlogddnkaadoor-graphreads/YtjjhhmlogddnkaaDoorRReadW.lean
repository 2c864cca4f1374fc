/-
  What ReadGraph of the reference answers at a text whose last line is whole (written by mk_rread.py).
-/
import Derived.Test.YtjjhhmlogddnkaaDoorRPcs
import Derived.Test.YtjjhhmlogddnkaaDoorPRead
import Derived.Test.YtjjhhmlogddnkaaDoorRGraph
import Derived.Deep.CutRange
namespace Go.Proofs.YtjjhhmlogddnkaaDoor
open Go.RowKit

set_option linter.unusedSimpArgs false in
set_option maxRecDepth 100000 in
set_option maxHeartbeats 8000000 in
theorem RRead_whole (s : ByteArray) (w : World) (h8 : s.size ≤ 8192) (hwh : (sp 10 s.data.toList).getLast? = some [] ∧ 1 < (sp 10 s.data.toList).length) :
    Calls Tryd.prog 15 #[.string s] w fun e w' => ∃ v, e = .returned (.tuple #[v, .int .i64 (parse s.data.toList).2.1, .int .i64 (parse s.data.toList).2.2]) ∧ ReadAs w.heap.size w' v (parse s.data.toList).1 ∧ Below w.heap.size w w' := by
  obtain ⟨ii, hii, hi0, hi1, hi2⟩ := info_parts Tryd.infoIvl
  obtain ⟨ie, hie, he0, he1, he2⟩ := info_parts Tryd.infoEdge
  obtain ⟨il, hil, hl0, hl1, hl2⟩ := info_parts Tryd.infoLeg
  have hsz : s.data.toList.length = s.size := by rw [Array.length_toList]; rfl
  have h8' : (s.size : Int) ≤ 8192 := by omega
  have HPn : Hid (∀ n, rdP g0 1 true (sp 10 s.data.toList) = .inr n → parse s.data.toList = (g0, (n : Int), 3)) := fun n h => by unfold parse; rw [if_neg (by omega), h]
  have HPg : Hid (∀ g, rdP g0 1 true (sp 10 s.data.toList) = .inl g → parse s.data.toList = if gChk g = 0 then (g, 0, 0) else (g0, 0, gChk g)) := fun g h => by unfold parse; rw [if_neg (by omega), h]
  have HPc : Hid (∀ W (r : ByteArray), r.size ≤ 8192 → Calls Tryd.prog 29 #[.string r, .int .u8 32] W fun e w' => ∃ (gb cap : Nat) (ws : List ByteArray), ws.map (fun s => s.data.toList) = sp 32 r.data.toList ∧ e = .returned (.slice (some ⟨gb, 0, none⟩) ws.length cap) ∧ w'.ownsRow W.heap.size 9 1 (.slice (some ⟨gb, 0, none⟩) ws.length cap) ws.length (ws.map Value.string) ∧ Below W.heap.size W w') := fun W r h => Pieces_any r 32 W h
  have HP10 : Hid (∀ W, Calls Tryd.prog 29 #[.string s, .int .u8 10] W fun e w' => ∃ (gb cap : Nat) (ws : List ByteArray), ws.map (fun s => s.data.toList) = sp 10 s.data.toList ∧ e = .returned (.slice (some ⟨gb, 0, none⟩) ws.length cap) ∧ w'.ownsRow W.heap.size 9 1 (.slice (some ⟨gb, 0, none⟩) ws.length cap) ws.length (ws.map Value.string) ∧ Below W.heap.size W w') := fun W => Pieces_any s 10 W h8
  have HMem : Hid (∀ r : ByteArray, r.data.toList ∈ sp 10 s.data.toList → r.size ≤ 8192) := fun r h => by
    have h1 := sp_mem_le 10 _ _ h
    have h2 : r.data.toList.length = r.size := by rw [Array.length_toList]; rfl
    omega
  clear hsz
  go_enter Tryd.func15, Tryd.ntmps15
  go_wp2_with fail
  refine (HP10.out _).mono ?_
  rintro e w1 ⟨gb, cap, ws, hws, rfl, hown, hb1⟩
  have HRes : Hid (∀ w', Below w1.heap.size w1 w' → w'.cell? ⟨w.heap.size, 0, none⟩ = some (.int .i64 0) ∧ w'.cell? ⟨w.heap.size, 1, none⟩ = some (.slice none 0 0) ∧ w'.cell? ⟨w.heap.size, 2, none⟩ = some (.slice none 0 0) ∧ ∀ j, w'.frozen? ⟨w.heap.size, j, none⟩ = false) := fun w' h => by
    have hb := ptg hb1 h
    refine ⟨?_, ?_, ?_, fun j => ?_⟩
    · rw [hb.cell (p := ⟨w.heap.size, 0, none⟩) (by simp)]; simp
    · rw [hb.cell (p := ⟨w.heap.size, 1, none⟩) (by simp)]; simp
    · rw [hb.cell (p := ⟨w.heap.size, 2, none⟩) (by simp)]; simp
    · rw [hb.frozen (p := ⟨w.heap.size, j, none⟩) (by simp)]; simp
  have HB1 := hideg (ptg (gal w _) hb1)
  have hz1 : w.heap.size < w1.heap.size := by have := hb1.size; simp at this; omega
  have HBFin : Hid (∀ w', Below w1.heap.size w1 w' → ∀ a b c, Below w.heap.size w (((w'.setCell ⟨w.heap.size, 0, none⟩ a).setCell ⟨w.heap.size, 1, none⟩ b).setCell ⟨w.heap.size, 2, none⟩ c)) := fun w' h a b c =>
    (((ptg HB1.out h).setCell (p := ⟨w.heap.size, 0, none⟩) (Nat.le_refl _) a).setCell (p := ⟨w.heap.size, 1, none⟩) (Nat.le_refl _) b).setCell (p := ⟨w.heap.size, 2, none⟩) (Nat.le_refl _) c
  obtain ⟨M, a, hM⟩ : ∃ M a, ws = M ++ [a] := by
    rcases List.eq_nil_or_concat ws with q | ⟨M, a, q⟩
    · rw [q] at hws; exact absurd hws.symm (sp_ne _ _)
    · exact ⟨M, a, by rw [q, List.concat_eq_append]⟩
  subst hM
  have hlm : (M ++ [a]).length = M.length + 1 := by simp
  have hgl : gb < w1.heap.size := (hown.lt gb rfl).2
  have hcp : M.length + 1 ≤ cap := by
    obtain ⟨_, _, q, q1, _⟩ := row_form hown
    simp only [Value.slice.injEq] at q
    rw [q.2.2, ← hlm]; exact q1
  have HCell : Hid (∀ j (h : j < (M ++ [a]).length), w1.cell? ⟨gb, j, none⟩ = some (.string (M ++ [a])[j])) := fun j h => by
    rw [hown.cellAt _ (by omega), List.getElem?_map, List.getElem?_eq_getElem h]; rfl
  have ca : w1.cell? ⟨gb, M.length, none⟩ = some (.string a) := by rw [HCell.out M.length (by simp)]; simp
  have HLW : Hid ((sp 10 s.data.toList).length = M.length + 1) := by show _ = _; rw [← hws, List.length_map, hlm]
  have hml : M.length ≤ 8192 := by have := HLW.out; have := sp_length_le 10 s.data.toList; have hsz : s.data.toList.length = s.size := by rw [Array.length_toList]; rfl
                                   omega
  have HWS := hideg hws
  have HGet : Hid (∀ k (h : k < (M ++ [a]).length), ∃ h' : k < (sp 10 s.data.toList).length, (sp 10 s.data.toList)[k] = (M ++ [a])[k].data.toList) := fun k h => by
    have h' : k < (sp 10 s.data.toList).length := by rw [HLW.out]; omega
    refine ⟨h', ?_⟩
    have h2 : (sp 10 s.data.toList)[k]? = some (M ++ [a])[k].data.toList := by rw [← hws, List.getElem?_map, List.getElem?_eq_getElem h]; rfl
    rw [List.getElem?_eq_getElem h'] at h2
    exact Option.some.inj h2
  have hlast : (sp 10 s.data.toList).getLast? = some a.data.toList := by rw [← hws, List.map_append]; simp
  rw [hlast, HLW.out] at hwh
  rw [hlm]
  clear hb1 hown hws HP10 hlast
  have HOwn0 : Hid (GO w1.heap.size w1.heap.size (w1.alloc (.cells #[.int .i64 0, .slice none 0 0, .slice none 0 0] 25)) g0) := ⟨_, _, [], GOwn.first _ _ _ (heap_alloc_new w1 _) (Nat.le_refl _), rfl⟩
  have j1 : ((M.length + 1 : Nat) : Int) - 1 = (M.length : Int) := by omega
  have j1' : (M.length : Int) + 1 - 1 = (M.length : Int) := by omega
  have j2 : (M.length : Int) < ((M.length + 1 : Nat) : Int) := by omega
  have j2' : (M.length : Int) < (M.length : Int) + 1 := by omega
  have j3 : (0 : Int) ≤ (M.length : Int) := by omega
  have j4 : IntKind.i64.wrap (M.length : Int) = (M.length : Int) := wrap_small _ (by omega) (by omega)
  obtain ⟨hwa1, hwa2⟩ := hwh
  have hwa1 : a.data.toList = [] := Option.some.inj hwa1
  have k1 : a.toList.isEmpty = true := by rw [bdl, hwa1]; rfl
  have k2 : (1 : Int) < (M.length : Int) + 1 := by omega
  have k3 : (M.length : Int) ≤ (M.length : Int) + 1 := by omega
  have k4 : ((M.length : Int)).toNat = M.length := by omega
  have k5 : (M.length : Int) ≤ (cap : Int) := by omega
  have hmp : 0 < M.length := by omega
  go_wp2
  go_loopw [8] (fun i wr => ∃ (k : Nat) (g : Gr), k ≤ M.length ∧ True ∧ i = .int .i64 k ∧ GO w1.heap.size w1.heap.size wr g ∧ Sm k g ∧ rdP g0 1 true (sp 10 s.data.toList) = rdP g (k + 1) (k == 0) ((sp 10 s.data.toList).drop k) ∧ Below w1.heap.size w1 wr) (fun i _ => M.length + 1 - (intOf i).toNat)
  case atStart => exact ⟨0, g0, Nat.zero_le _, trivial, rfl, HOwn0.out, ⟨by simp [g0], by simp [g0], by simp [g0]⟩, rfl, gal w1 _⟩
  case round =>
    obtain ⟨k, g, hk, _, rfl, hG, hS, hR, hb⟩ := hrel
    have HG := hideg hG
    have HR := hideg hR
    have HBw := hideg hb
    have HS := hideg (hS.mono (N' := 10000) (by omega))
    have HSk := hideg hS
    have hszr := hb.size
    clear hG hR hb hS
    by_cases hlt : k < M.length
    · have i1 : (k : Int) < (M.length : Int) := by omega
      have i2 : (0 : Int) ≤ (k : Int) := by omega
      have hka : k < (M ++ [a]).length := by rw [hlm]; omega
      obtain ⟨hkl, hke⟩ := HGet.out k hka
      have c0 := (HBw.out.cell (p := ⟨gb, k, none⟩) hgl).trans (HCell.out k hka)
      have hr8 := HMem.out (M ++ [a])[k] (by rw [← hke]; exact List.getElem_mem hkl)
      have HD : Hid (k + 1 < (sp 10 s.data.toList).length → (sp 10 s.data.toList).drop k = (M ++ [a])[k].data.toList :: (sp 10 s.data.toList)[k + 1]?.getD [] :: (sp 10 s.data.toList).drop (k + 2) ∧ (sp 10 s.data.toList).drop (k + 1) = (sp 10 s.data.toList)[k + 1]?.getD [] :: (sp 10 s.data.toList).drop (k + 2)) := fun h => by
        rw [List.drop_eq_getElem_cons hkl, List.drop_eq_getElem_cons h, hke, List.getElem?_eq_getElem h]
        exact ⟨rfl, rfl⟩
      have HD1 : Hid (k + 1 = (sp 10 s.data.toList).length → (sp 10 s.data.toList).drop k = [(M ++ [a])[k].data.toList]) := fun h => by
        rw [List.drop_eq_getElem_cons hkl, hke, List.drop_eq_nil_of_le (by omega)]
      generalize (M ++ [a])[k] = r at *
      clear hke
      go_wp2_with fail
      refine (HPc.out _ r hr8).mono ?_
      rintro e w2 ⟨gb2, cap2, ws2, hws2, rfl, hown2, hb2⟩
      obtain ⟨s0, ts, hst⟩ : ∃ s0 ts, ws2 = s0 :: ts := by
        cases ws2 with
        | nil => exact absurd hws2.symm (sp_ne _ _)
        | cons s0 ts => exact ⟨s0, ts, rfl⟩
      subst hst
      have hsp2 : sp 32 r.data.toList = s0.data.toList :: ts.map (fun s => s.data.toList) := by rw [← hws2]; rfl
      have HLn := hideg (fun first => lineOf_eq (g := g) (first := first) hsp2)
      have htl : ts.length ≤ 8192 := by
        have h1 := congrArg List.length hsp2
        have h2 := sp_length_le 32 r.data.toList
        have h3 : r.data.toList.length = r.size := by rw [Array.length_toList]; rfl
        simp only [List.length_cons, List.length_map] at h1
        omega
      have hgl2 : gb2 < w2.heap.size := (hown2.lt gb2 rfl).2
      have d0 : w2.cell? ⟨gb2, 0, none⟩ = some (.string s0) := by rw [hown2.cellAt _ (by simp)]; rfl
      have HW2 : Hid (WdAt w2 (some ⟨gb2, 1, none⟩) ts) := .inr ⟨gb2, 1, rfl, hgl2, fun j hj => by
        rw [show 1 + j = j + 1 by omega, hown2.cellAt _ (by simp; omega)]
        simp [hj]⟩
      have hcap2 : ts.length + 1 ≤ cap2 := by
        obtain ⟨_, _, q, q1, _⟩ := row_form hown2
        simp only [Value.slice.injEq] at q
        rw [q.2.2]; exact q1
      have HBw2 := hideg (HBw.out.trans (hb2.mono hszr))
      have HG2 := hideg (HG.out.below hb2)
      have hsz2 := hb2.size
      have HNum := hideg (fun ao cap3 (h : WdAt w2 ao ts) => Numbers_any ao cap3 ts w2 h (by omega))
      simp only [List.length_cons]
      clear hws2 hown2 hb2 hsp2 c0 HG HBw
      have i6 : (1 : Int) ≤ (ts.length : Int) + 1 := by omega
      have i7 : ((ts.length : Int) + 1 - 1).toNat = ts.length := by omega
      have i8 : (ts.length : Int) + 1 ≤ (cap2 : Int) := by omega
      have HBadF0 : Hid (∀ tb, isT s0.data.toList = tb → ((nmw ts).isSome && (true && ((k == 0) == tb))) = false → parse s.data.toList = (g0, ((k + 1 : Nat) : Int), 3)) := by
        rintro tb rfl h
        by_cases hpos : k + 1 < (sp 10 s.data.toList).length
        · refine HPn.out _ ?_
          rw [HR.out, (HD.out hpos).1]
          refine rdP_bad ?_
          rw [HLn.out]
          cases hm : nmw ts with
          | none => exact lineW_none hm
          | some ns =>
            rw [hm] at h
            refine lineW_first fun e => ?_
            rw [← e] at h
            simp at h
        · rw [HLW.out] at hpos; omega
      have HBadP0 : Hid (put g s0.data.toList ((nmw ts).getD []) = none → parse s.data.toList = (g0, ((k + 1 : Nat) : Int), 3)) := by
        intro h
        by_cases hpos : k + 1 < (sp 10 s.data.toList).length
        · refine HPn.out _ ?_
          rw [HR.out, (HD.out hpos).1]
          refine rdP_bad ?_
          rw [HLn.out]
          cases hm : nmw ts with
          | none => exact lineW_none hm
          | some ns =>
            rw [hm] at h
            by_cases e : (k == 0) = isT s0.data.toList
            · rw [lineW_put hm e]; exact h
            · exact lineW_first e
        · rw [HLW.out] at hpos; omega
      have HNext0 : Hid (∀ tb, isT s0.data.toList = tb → ((nmw ts).isSome && (true && ((k == 0) == tb))) = true → ∀ g', put g s0.data.toList ((nmw ts).getD []) = some g' → lineOf g r.data.toList (k == 0) = some g' ∧ rdP g0 1 true (sp 10 s.data.toList) = rdP g' (k + 1 + 1) (k + 1 == 0) ((sp 10 s.data.toList).drop (k + 1))) := by
        rintro tb rfl h g' hp
        simp only [Bool.and_eq_true, beq_iff_eq] at h
        obtain ⟨h1, h2, h3⟩ := h
        have hpos : k + 1 < (sp 10 s.data.toList).length := by rw [HLW.out]; omega
        cases hm : nmw ts with
        | none => rw [hm] at h1; simp at h1
        | some ns =>
          rw [hm] at hp
          have hl : lineOf g r.data.toList (k == 0) = some g' := by rw [HLn.out, lineW_put hm h3]; exact hp
          exact ⟨hl, by rw [HR.out, (HD.out hpos).1, (HD.out hpos).2, rdP_go hl]; rfl⟩
      have HKN0 : Hid (∀ tb, ((nmw ts).isSome && (true && ((k == 0) == tb))) = true → k + 1 ≤ M.length) := by
        intro tb h
        omega
      clear HLn HR HD HD1 HPn
      go_upto_region 12 with fail
      go_cut [9, 10, 11] from 39 to 186 (fun v9 v10 v11 wx => v9 = .slice (some ⟨gb2, 0, none⟩) (ts.length + 1) cap2 ∧ v11 = .bool (nmw ts).isSome ∧ wx.ownsRow w2.heap.size 3 1 v10 ((nmw ts).getD []).length (((nmw ts).getD []).map (Value.int .i64)) ∧ Below w2.heap.size w2 wx)
      case first =>
        go_wp2_with fail
        case inl h =>
          have hts : ts = [] := List.eq_nil_of_length_eq_zero (by omega)
          subst hts
          refine (HNum.out _ _ (.inl rfl)).mono ?_
          rintro e w3 ⟨v, rfl, hv, hb3⟩
          have hc1 : cap2 = 1 := by omega
          go_wp2
          go_meet
          case rel => exact ⟨by first | rfl | (rw [hc1]; rfl), rfl, hv, hb3⟩
        case inr h =>
          refine (HNum.out _ _ HW2.out).mono ?_
          rintro e w3 ⟨v, rfl, hv, hb3⟩
          go_wp2
          go_meet
          case rel => exact ⟨rfl, rfl, hv, hb3⟩
      case rest =>
        obtain ⟨w3, rfl⟩ : ∃ x, x = wc := ⟨_, rfl⟩
        obtain ⟨rfl, rfl, hv, hb3⟩ := hcut
        have HB3 := hideg (HBw2.out.trans (hb3.mono (by omega)))
        have hB3 : w1.heap.size ≤ w3.heap.size := by have := hb3.size; omega
        obtain ⟨vL, vE, L, hO, hL⟩ := HG2.out.below hb3
        have HO3 := hideg hO
        obtain ⟨la, lc, ea, ec, rfl, rfl, _, _, _⟩ := hO.gat
        have hbx := HO3.out.box
        have p0 : w3.cell? ⟨w1.heap.size, 0, none⟩ = some (.int .i64 g.hor) := by rw [Lib.cell_of_heap hbx]; rfl
        have p1 : w3.cell? ⟨w1.heap.size, 1, none⟩ = some (.slice la g.lives.length lc) := by rw [Lib.cell_of_heap hbx]; rfl
        have p2 : w3.cell? ⟨w1.heap.size, 2, none⟩ = some (.slice ea L.length ec) := by rw [Lib.cell_of_heap hbx]; rfl
        have e0 := (hb3.cell (p := ⟨gb2, 0, none⟩) hgl2).trans d0
        have HLE : Hid (g.edges = [] ↔ L = []) := by show _ ↔ _; rw [hL]; simp
        have hl10 : L.length ≤ 10000 := by have := HS.out.ed; rw [hL] at this; simpa using this
        have i5 : IntKind.i64.wrap ((L.length : Int) - 1) = (L.length : Int) - 1 := by unfold IntKind.wrap; simp [IntKind.bits, IntKind.signed]; omega
        obtain ⟨tb, htb⟩ : ∃ tb, isT s0.data.toList = tb := ⟨_, rfl⟩
        have kT : (s0.toList == [116, 105, 109, 101]) = tb := by rw [← htb, bdl]; unfold isT; exact (Bool.beq_eq_decide_eq _ _)
        have HBadF := hideg (HBadF0.out tb htb)
        have HNext := hideg (HNext0.out tb htb)
        have HKN := hideg (HKN0.out tb)
        have HBadP := hideg HBadP0.out
        clear hbx hb3 hO HG2 HNum HW2 d0 HBw2 HBadF0 HNext0 HKN0 HBadP0 htb
        generalize (nmw ts).getD [] = ns at *
        generalize (nmw ts).isSome = nb at *
        go_upto_region 13 with fail
        go_cut [11] from 39 to 186 (fun v11 wx => v11 = .bool (nb && (true && ((k == 0) == tb))) ∧ wx = w3)
        case first =>
          have hk1 : ((k : Int) == 0) = (k == 0) := by
            by_cases e : k = 0
            · subst e; rfl
            · have h1 : ((k : Int) == 0) = false := by rw [beq_eq_false_iff_ne]; omega
              have h2 : (k == 0) = false := by rw [beq_eq_false_iff_ne]; exact e
              rw [h1, h2]

          generalize (k == 0) = fb at *

          clear HBadF HNext HKN HBadP hv
          cases nb with
          | false =>
            go_wp2
            all_goals go_meet
            all_goals exact ⟨rfl, rfl⟩
          | true =>

            cases fb <;> cases tb
            all_goals
              go_wp2
              all_goals go_meet
              all_goals exact ⟨rfl, rfl⟩
        case rest =>
          obtain ⟨rfl, hwx⟩ := hcut
          obtain rfl := hwx.symm
          generalize (nb && (true && ((k == 0) == tb))) = ob at *
          clear kT
          by_cases hKT : s0.data.toList = wTime
          · have kT : (s0.toList == [116, 105, 109, 101]) = true := by rw [k_eq hKT]; rfl
            have kV : (s0.toList == [118, 101, 114, 116, 101, 120]) = false := by rw [k_eq hKT]; rfl
            have kE : (s0.toList == [101, 100, 103, 101]) = false := by rw [k_eq hKT]; rfl
            have kL : (s0.toList == [108, 101, 103]) = false := by rw [k_eq hKT]; rfl
            rw [hKT] at HNext HBadP
            clear hKT
            by_cases hn : ns.length = 1
            · obtain ⟨x, rfl⟩ := len1 hn
              have HPP := hideg (put_T1 (g := g) (a := x))
              obtain ⟨gn, vc, rfl, hg1, hg2⟩ := hv.form (by simp)
              have n0 := hv.cellAt 0 (by simp)
              simp only [List.map_cons, List.map_nil, List.getElem?_cons_zero, List.length_cons, List.length_nil, Nat.zero_add] at n0 ⊢
              have fz : w3.frozen? ⟨w1.heap.size, 0, none⟩ = false := Lib.frozen_of_heap HO3.out.box 0
              have HBN := hideg (HB3.out.setCell (p := ⟨w1.heap.size, 0, none⟩) HO3.out.low (.int .i64 x))
              have HGN : Hid (GO w1.heap.size w1.heap.size (w3.setCell ⟨w1.heap.size, 0, none⟩ (.int .i64 x)) { g with hor := x }) := ⟨_, _, L, HO3.out.setHor x, hL⟩
              clear hv hn p1 HLE HBadP
              cases ob with
              | false =>
                have HP := hideg (HBadF.out rfl)
                obtain ⟨r0, r1, r2, f0⟩ := HRes.out w3 HB3.out
                have hRb : w.heap.size ≠ w1.heap.size := by omega
                have HBF := hideg (HBFin.out _ HBN.out)
                clear HPP HGN HNext HBadF
                go_wp2
                rw [HP.out]
                exact bodyPost_ret (v := .tuple #[.agg #[.int .i64 0, .slice none 0 0, .slice none 0 0], .int .i64 ((k + 1 : Nat) : Int), .int .i64 3]) (by simp [results, Tryd.results15, go_sem, r0, r1, r2, hRb]) rfl ⟨_, rfl, ReadAs.none _ _, HBF.out _ _ _⟩
              | true =>
                obtain ⟨hnx1, hnx2⟩ := HNext.out rfl _ HPP.out
                have HNX := hideg hnx2
                have HSM := hideg (HSk.out.line hnx1)
                clear HPP hnx1 hnx2
                go_wp2
                go_roundw
                case rel => exact ⟨k + 1, _, HKN.out rfl, trivial, by go_num, HGN.out, HSM.out, HNX.out, HBN.out⟩
                case measure => simp [intOf]; omega
            · have hz2 : ¬ (ns.length : Int) = 1 := by omega
              obtain ⟨vo, vc, rfl, _, _⟩ := row_form hv
              have HP := hideg (HBadP.out (put_T hn))
              obtain ⟨r0, r1, r2, f0⟩ := HRes.out w3 HB3.out
              have HBF := hideg (HBFin.out w3 HB3.out)
              clear hv p0 p1 HNext HBadF HBadP
              go_wp2
              all_goals
                rw [HP.out]
                exact bodyPost_ret (v := .tuple #[.agg #[.int .i64 0, .slice none 0 0, .slice none 0 0], .int .i64 ((k + 1 : Nat) : Int), .int .i64 3]) (by simp [results, Tryd.results15, go_sem, r0, r1, r2]) rfl ⟨_, rfl, ReadAs.none _ _, HBF.out _ _ _⟩
          · have kT : (s0.toList == [116, 105, 109, 101]) = false := k_ne hKT
            by_cases hKV : s0.data.toList = wVertex
            · have kV : (s0.toList == [118, 101, 114, 116, 101, 120]) = true := by rw [k_eq hKV]; rfl
              have kE : (s0.toList == [101, 100, 103, 101]) = false := by rw [k_eq hKV]; rfl
              have kL : (s0.toList == [108, 101, 103]) = false := by rw [k_eq hKV]; rfl
              rw [hKV] at HNext HBadP
              clear hKV hKT
              by_cases hn : ns.length = 2 ∧ L = []
              · obtain ⟨hn, rfl⟩ := hn
                obtain ⟨x, y, rfl⟩ := len2 hn
                have HPP := hideg (put_V1 (g := g) (a := x) (b := y) (HLE.out.2 rfl))
                obtain ⟨gn, vc, rfl, hg1, hg2⟩ := hv.form (by simp)
                obtain ⟨cn, hcn⟩ := row_block hv (b := gn) rfl
                have n0 := hv.cellAt 0 (by simp)
                have n1 := hv.cellAt 1 (by simp)
                simp only [List.map_cons, List.map_nil, List.getElem?_cons_zero, List.getElem?_cons_succ, List.length_cons, List.length_nil, Nat.zero_add, Nat.reduceAdd] at n0 n1 ⊢
                have hlv10 := HS.out.lv
                have hbl := heap_ltg HO3.out.box
                have hne : some gn ≠ (Value.slice la g.lives.length lc).ownBlock := fun k => row_ne HO3.out.lv hcn (by decide) k.symm
                clear hv hn p0 hcn HLE HBadP
                go_wp2_with fail
                refine wp_region_noPanic ?_
                refine wp_region_back (S := fun w' => w'.cell? ⟨w1.heap.size, 1, none⟩ = some (.slice la g.lives.length lc) ∧ w'.cell? ⟨gn, 0, none⟩ = some (.int .i64 x) ∧ w'.cell? ⟨gn, 1, none⟩ = some (.int .i64 y)) (by kernel_rfl) (by simp) (by kernel_rfl) (by kernel_rfl) ⟨p1, n0, n1⟩ (fun hHeld => ?_)
                simp only [List.pop_toArray, List.dropLast, List.back!_toArray, List.getLast!]
                refine take_lit (i := 0) (v := ?_) rfl (by kernel_rfl) (by kernel_rfl) (by kernel_rfl) (fun _ _ _ h => h) (Or.inl ⟨by rfl, ?hy0⟩) (by assumption) ?_
                case hy0 => (intro w hSw; (try dsimp only at hSw); go_simp; try with_reducible rfl)
                try simp only [Act.put, List.setIfInBounds_toArray, List.set_cons_zero, List.set_cons_succ]
                refine take_lit (i := 1) (v := ?_) rfl (by kernel_rfl) (by kernel_rfl) (by kernel_rfl) (fun _ _ _ h => h) (Or.inl ⟨by rfl, ?hy1⟩) (by assumption) ?_
                case hy1 => (intro w hSw; (try dsimp only at hSw); go_simp; try with_reducible rfl)
                try simp only [Act.put, List.setIfInBounds_toArray, List.set_cons_zero, List.set_cons_succ]
                refine take_lit (i := 2) (v := ?_) rfl (by kernel_rfl) (by kernel_rfl) (by kernel_rfl) (fun _ _ _ h => h) (Or.inl ⟨by rfl, ?hy2⟩) (by assumption) ?_
                case hy2 => (intro w hSw; (try dsimp only at hSw); go_simp; try with_reducible rfl)
                try simp only [Act.put, List.setIfInBounds_toArray, List.set_cons_zero, List.set_cons_succ]
                refine take_lit (i := 3) (v := ?_) rfl (by kernel_rfl) (by kernel_rfl) (by kernel_rfl) (fun _ _ _ h => h) (Or.inl ⟨by rfl, ?hy3⟩) (by assumption) ?_
                case hy3 => (intro w hSw; (try dsimp only at hSw); go_simp; try with_reducible rfl)
                try simp only [Act.put, List.setIfInBounds_toArray, List.set_cons_zero, List.set_cons_succ]
                refine take_lit (i := 4) (v := ?_) rfl (by kernel_rfl) (by kernel_rfl) (by kernel_rfl) (fun _ _ _ h => h) (Or.inl ⟨by rfl, ?hy4⟩) (by assumption) ?_
                case hy4 => (intro w hSw; (try dsimp only at hSw); go_simp; try with_reducible rfl)
                try simp only [Act.put, List.setIfInBounds_toArray, List.set_cons_zero, List.set_cons_succ]
                refine take_lit (i := 5) (v := ?_) rfl (by kernel_rfl) (by kernel_rfl) (by kernel_rfl) (fun _ _ _ h => h) (Or.inl ⟨by rfl, ?hy5⟩) (by assumption) ?_
                case hy5 => (intro w hSw; (try dsimp only at hSw); go_simp; try with_reducible rfl)
                try simp only [Act.put, List.setIfInBounds_toArray, List.set_cons_zero, List.set_cons_succ]
                refine take_lit (i := 6) (v := ?_) rfl (by kernel_rfl) (by kernel_rfl) (by kernel_rfl) (fun _ _ _ h => h) (Or.inl ⟨by rfl, ?hy6⟩) (by assumption) ?_
                case hy6 => (intro w hSw; (try dsimp only at hSw); go_simp; try with_reducible rfl)
                try simp only [Act.put, List.setIfInBounds_toArray, List.set_cons_zero, List.set_cons_succ]
                refine take_lit (i := 7) (v := ?_) rfl (by kernel_rfl) (by kernel_rfl) (by kernel_rfl) (fun _ _ _ h => h) (Or.inl ⟨by rfl, ?hy7⟩) (by assumption) ?_
                case hy7 => (intro w hSw; (try dsimp only at hSw); go_simp; try with_reducible rfl)
                try simp only [Act.put, List.setIfInBounds_toArray, List.set_cons_zero, List.set_cons_succ]
                refine take_lit (i := 8) (v := ?_) rfl (by kernel_rfl) (by kernel_rfl) (by kernel_rfl) (fun _ _ _ h => h) (Or.inl ⟨by rfl, ?hy8⟩) (by assumption) ?_
                case hy8 => (intro w hSw; (try dsimp only at hSw); go_simp; try with_reducible rfl)
                try simp only [Act.put, List.setIfInBounds_toArray, List.set_cons_zero, List.set_cons_succ]
                refine next_lit (i := 9) rfl (by kernel_rfl) (fun K hK => ?_)
                go_simp
                have hwa : Below w3.heap.size w3 (w3.drew.alloc (.cells #[.int .i64 x, .int .i64 y] 49)) := (Below.refl _ _).drew.alloc (Nat.le_refl _) _
                have m1 := (hwa.cell (p := ⟨w1.heap.size, 1, none⟩) hbl).trans p1
                have m2 := (hwa.cell (p := ⟨gn, 0, none⟩) hg2).trans n0
                have m3 := (hwa.cell (p := ⟨gn, 1, none⟩) hg2).trans n1
                refine hK.out _ _ ⟨m1, m2, m3⟩ (fun hHeld => ?_)
                clear hK K hHeld
                try simp only [Act.put, List.setIfInBounds_toArray, List.set_cons_zero, List.set_cons_succ]
                refine next_lit (i := 10) rfl (by kernel_rfl) (fun K hK => ?_)
                refine step_append_lies _ (by rfl) _ _ _ (by rfl) w1.heap.size 49 ii _ 2 16 Tryd.underlying22 hii hi0 hi1 hi2 rfl (by omega) (.slice la g.lives.length lc) g.lives.length (encs g.lives) (by rfl) (ownsRow_below HO3.out.lv hwa) ⟨w3.heap.size, 0, none⟩ 1 1 [.int .i64 x, .int .i64 y] (by rfl) (by rfl) (World.news_of_block (cs := #[.int .i64 x, .int .i64 y]) (t := 49) (fr := (0, 0)) (heap_alloc_new w3.drew _)) (by simp [Value.oneCell']) (by omega) (by unfold maxLen; omega) (by omega) (Nat.le_trans hB3 hwa.size) (w3.heap.size + 1) (by simp) ?_
                intro gg cap1 w4 hown1 hgrow hat hltg
                obtain ⟨hbox4, hG4⟩ := HO3.out.life hwa hgrow hown1
                have x1 : w4.cell? ⟨w1.heap.size, 1, none⟩ = some (.slice la g.lives.length lc) := by rw [Lib.cell_of_heap hbox4]; rfl
                have x2 : w4.cell? ⟨gn, 0, none⟩ = some (.int .i64 x) := by rw [hgrow.cell_far _ (Nat.lt_of_lt_of_le hg2 hwa.size) hne]; exact m2
                have x3 : w4.cell? ⟨gn, 1, none⟩ = some (.int .i64 y) := by rw [hgrow.cell_far _ (Nat.lt_of_lt_of_le hg2 hwa.size) hne]; exact m3
                have fz4 : w4.frozen? ⟨w1.heap.size, 1, none⟩ = false := Lib.frozen_of_heap hbox4 1
                refine hK.out _ _ ⟨x1, x2, x3⟩ (fun hHeld => ?_)
                clear hK K m1 m2 m3 hbox4
                have HBN := hideg (((HB3.out.trans (hwa.mono hB3)).grown hgrow (Nat.le_trans hB3 hwa.size) (fun j hj => (HO3.out.lv.lt j hj).1)).setCell (p := ⟨w1.heap.size, 1, none⟩) HO3.out.low (.slice (some ⟨gg, 0, none⟩) (g.lives.length + 1) cap1))
                have HGN := hideg hG4
                clear hwa hgrow hown1 hG4 hat hltg
                try simp only [Act.put, List.setIfInBounds_toArray, List.set_cons_zero, List.set_cons_succ]
                refine take_lit (i := 11) (v := ?_) rfl (by kernel_rfl) (by kernel_rfl) (by kernel_rfl) (fun _ _ _ h => h) (Or.inl ⟨by rfl, ?hy11⟩) (by assumption) ?_
                case hy11 => (intro w hSw; (try dsimp only at hSw); go_simp; try with_reducible rfl)
                try simp only [Act.put, List.setIfInBounds_toArray, List.set_cons_zero, List.set_cons_succ]
                refine wpAnyH_done (by kernel_rfl) ?_ _
                refine back_last (fun K hK => ?_)
                clear hHeld
                go_simp
                refine hK.out _ _ (NoPanic.normal ?_)
                clear hK K x1 x2 x3 fz4
                have HGN : Hid (GO w1.heap.size w1.heap.size (w4.setCell ⟨w1.heap.size, 1, none⟩ (.slice (some ⟨gg, 0, none⟩) (g.lives.length + 1) cap1)) { g with lives := g.lives ++ [(x, y)] }) := ⟨_, _, [], HGN.out, hL⟩
                generalize w4.setCell ⟨w1.heap.size, 1, none⟩ (.slice (some ⟨gg, 0, none⟩) (g.lives.length + 1) cap1) = w5 at *
                cases ob with
                | false =>
                  clear HPP HGN
                  have HP := hideg (HBadF.out rfl)
                  obtain ⟨r0, r1, r2, f0⟩ := HRes.out w5 HBN.out
                  have HBF := hideg (HBFin.out w5 HBN.out)
                  clear HBN
                  go_wp2
                  rw [HP.out]
                  exact bodyPost_ret (v := .tuple #[.agg #[.int .i64 0, .slice none 0 0, .slice none 0 0], .int .i64 ((k + 1 : Nat) : Int), .int .i64 3]) (by simp [results, Tryd.results15, go_sem, r0, r1, r2]) rfl ⟨_, rfl, ReadAs.none _ _, HBF.out _ _ _⟩
                | true =>
                  obtain ⟨hnx1, hnx2⟩ := HNext.out rfl _ HPP.out
                  have HNX := hideg hnx2
                  have HSM := hideg (HSk.out.line hnx1)
                  clear HPP hnx1 hnx2
                  go_wp2
                  go_roundw
                  case rel => exact ⟨k + 1, _, HKN.out rfl, trivial, by go_num, HGN.out, HSM.out, HNX.out, HBN.out⟩
                  case measure => simp [intOf]; omega
              · have hz : ns.length ≠ 2 ∨ g.edges ≠ [] := by
                  rcases Nat.decEq ns.length 2 with q | q
                  · exact .inl q
                  · exact .inr fun k => hn ⟨q, HLE.out.1 k⟩
                have hz2 : ¬ (ns.length : Int) = 2 ∨ (ns.length : Int) = 2 ∧ ¬ (L.length : Int) = 0 := by
                  rcases Nat.decEq ns.length 2 with q | q
                  · exact .inl (by omega)
                  · refine .inr ⟨by omega, ?_⟩
                    have : L ≠ [] := fun k => hn ⟨q, k⟩
                    have := List.length_pos_iff.2 this
                    omega
                rcases hz2 with hz2 | ⟨hz2, hz3⟩
                · obtain ⟨vo, vc, rfl, _, _⟩ := row_form hv
                  have HP := hideg (HBadP.out (put_V hz))
                  obtain ⟨r0, r1, r2, f0⟩ := HRes.out w3 HB3.out
                  have HBF := hideg (HBFin.out w3 HB3.out)
                  clear hv p0 p1 HNext HBadF HBadP
                  go_wp2
                  all_goals
                    rw [HP.out]
                    exact bodyPost_ret (v := .tuple #[.agg #[.int .i64 0, .slice none 0 0, .slice none 0 0], .int .i64 ((k + 1 : Nat) : Int), .int .i64 3]) (by simp [results, Tryd.results15, go_sem, r0, r1, r2]) rfl ⟨_, rfl, ReadAs.none _ _, HBF.out _ _ _⟩
                · obtain ⟨vo, vc, rfl, _, _⟩ := row_form hv
                  have HP := hideg (HBadP.out (put_V hz))
                  obtain ⟨r0, r1, r2, f0⟩ := HRes.out w3 HB3.out
                  have HBF := hideg (HBFin.out w3 HB3.out)
                  clear hv p0 p1 HNext HBadF HBadP
                  go_wp2
                  all_goals
                    rw [HP.out]
                    exact bodyPost_ret (v := .tuple #[.agg #[.int .i64 0, .slice none 0 0, .slice none 0 0], .int .i64 ((k + 1 : Nat) : Int), .int .i64 3]) (by simp [results, Tryd.results15, go_sem, r0, r1, r2]) rfl ⟨_, rfl, ReadAs.none _ _, HBF.out _ _ _⟩
            · have kV : (s0.toList == [118, 101, 114, 116, 101, 120]) = false := k_ne hKV
              by_cases hKE : s0.data.toList = wEdge
              · have kE : (s0.toList == [101, 100, 103, 101]) = true := by rw [k_eq hKE]; rfl
                have kL : (s0.toList == [108, 101, 103]) = false := by rw [k_eq hKE]; rfl
                rw [hKE] at HNext HBadP
                clear hKV hKT hKE
                by_cases hn : ns.length = 2
                · obtain ⟨x, y, rfl⟩ := len2 hn
                  have HPP := hideg (put_E1 (g := g) (a := x) (b := y))
                  obtain ⟨gn, vc, rfl, hg1, hg2⟩ := hv.form (by simp)
                  obtain ⟨cn, hcn⟩ := row_block hv (b := gn) rfl
                  have n0 := hv.cellAt 0 (by simp)
                  have n1 := hv.cellAt 1 (by simp)
                  simp only [List.map_cons, List.map_nil, List.getElem?_cons_zero, List.getElem?_cons_succ, List.length_cons, List.length_nil, Nat.zero_add, Nat.reduceAdd] at n0 n1 ⊢
                  have hbl := heap_ltg HO3.out.box
                  have hne : some gn ≠ (Value.slice ea L.length ec).ownBlock := fun k => row_ne HO3.out.ed hcn (by decide) k.symm
                  clear hv hn p0 p1 hcn HLE HBadP
                  go_wp2_with fail
                  refine wp_region_noPanic ?_
                  refine wp_region_back (S := fun w' => w'.cell? ⟨w1.heap.size, 2, none⟩ = some (.slice ea L.length ec) ∧ w'.cell? ⟨gn, 0, none⟩ = some (.int .i64 x) ∧ w'.cell? ⟨gn, 1, none⟩ = some (.int .i64 y)) (by kernel_rfl) (by simp) (by kernel_rfl) (by kernel_rfl) ⟨p2, n0, n1⟩ (fun hHeld => ?_)
                  simp only [List.pop_toArray, List.dropLast, List.back!_toArray, List.getLast!]
                  refine take_lit (i := 0) (v := ?_) rfl (by kernel_rfl) (by kernel_rfl) (by kernel_rfl) (fun _ _ _ h => h) (Or.inl ⟨by rfl, ?hy0⟩) (by assumption) ?_
                  case hy0 => (intro w hSw; (try dsimp only at hSw); go_simp; try with_reducible rfl)
                  try simp only [Act.put, List.setIfInBounds_toArray, List.set_cons_zero, List.set_cons_succ]
                  refine take_lit (i := 1) (v := ?_) rfl (by kernel_rfl) (by kernel_rfl) (by kernel_rfl) (fun _ _ _ h => h) (Or.inl ⟨by rfl, ?hy1⟩) (by assumption) ?_
                  case hy1 => (intro w hSw; (try dsimp only at hSw); go_simp; try with_reducible rfl)
                  try simp only [Act.put, List.setIfInBounds_toArray, List.set_cons_zero, List.set_cons_succ]
                  refine take_lit (i := 2) (v := ?_) rfl (by kernel_rfl) (by kernel_rfl) (by kernel_rfl) (fun _ _ _ h => h) (Or.inl ⟨by rfl, ?hy2⟩) (by assumption) ?_
                  case hy2 => (intro w hSw; (try dsimp only at hSw); go_simp; try with_reducible rfl)
                  try simp only [Act.put, List.setIfInBounds_toArray, List.set_cons_zero, List.set_cons_succ]
                  refine take_lit (i := 3) (v := ?_) rfl (by kernel_rfl) (by kernel_rfl) (by kernel_rfl) (fun _ _ _ h => h) (Or.inl ⟨by rfl, ?hy3⟩) (by assumption) ?_
                  case hy3 => (intro w hSw; (try dsimp only at hSw); go_simp; try with_reducible rfl)
                  try simp only [Act.put, List.setIfInBounds_toArray, List.set_cons_zero, List.set_cons_succ]
                  refine take_lit (i := 4) (v := ?_) rfl (by kernel_rfl) (by kernel_rfl) (by kernel_rfl) (fun _ _ _ h => h) (Or.inl ⟨by rfl, ?hy4⟩) (by assumption) ?_
                  case hy4 => (intro w hSw; (try dsimp only at hSw); go_simp; try with_reducible rfl)
                  try simp only [Act.put, List.setIfInBounds_toArray, List.set_cons_zero, List.set_cons_succ]
                  refine take_lit (i := 5) (v := ?_) rfl (by kernel_rfl) (by kernel_rfl) (by kernel_rfl) (fun _ _ _ h => h) (Or.inl ⟨by rfl, ?hy5⟩) (by assumption) ?_
                  case hy5 => (intro w hSw; (try dsimp only at hSw); go_simp; try with_reducible rfl)
                  try simp only [Act.put, List.setIfInBounds_toArray, List.set_cons_zero, List.set_cons_succ]
                  refine take_lit (i := 6) (v := ?_) rfl (by kernel_rfl) (by kernel_rfl) (by kernel_rfl) (fun _ _ _ h => h) (Or.inl ⟨by rfl, ?hy6⟩) (by assumption) ?_
                  case hy6 => (intro w hSw; (try dsimp only at hSw); go_simp; try with_reducible rfl)
                  try simp only [Act.put, List.setIfInBounds_toArray, List.set_cons_zero, List.set_cons_succ]
                  refine take_lit (i := 7) (v := ?_) rfl (by kernel_rfl) (by kernel_rfl) (by kernel_rfl) (fun _ _ _ h => h) (Or.inl ⟨by rfl, ?hy7⟩) (by assumption) ?_
                  case hy7 => (intro w hSw; (try dsimp only at hSw); go_simp; try with_reducible rfl)
                  try simp only [Act.put, List.setIfInBounds_toArray, List.set_cons_zero, List.set_cons_succ]
                  refine take_lit (i := 8) (v := ?_) rfl (by kernel_rfl) (by kernel_rfl) (by kernel_rfl) (fun _ _ _ h => h) (Or.inl ⟨by rfl, ?hy8⟩) (by assumption) ?_
                  case hy8 => (intro w hSw; (try dsimp only at hSw); go_simp; try with_reducible rfl)
                  try simp only [Act.put, List.setIfInBounds_toArray, List.set_cons_zero, List.set_cons_succ]
                  refine next_lit (i := 9) rfl (by kernel_rfl) (fun K hK => ?_)
                  go_simp
                  have hwa : Below w3.heap.size w3 (w3.drew.alloc (.cells #[.int .i64 x, .int .i64 y, .slice none 0 0] 52)) := (Below.refl _ _).drew.alloc (Nat.le_refl _) _
                  have m1 := (hwa.cell (p := ⟨w1.heap.size, 2, none⟩) hbl).trans p2
                  have m2 := (hwa.cell (p := ⟨gn, 0, none⟩) hg2).trans n0
                  have m3 := (hwa.cell (p := ⟨gn, 1, none⟩) hg2).trans n1
                  refine hK.out _ _ ⟨m1, m2, m3⟩ (fun hHeld => ?_)
                  clear hK K hHeld
                  try simp only [Act.put, List.setIfInBounds_toArray, List.set_cons_zero, List.set_cons_succ]
                  refine next_lit (i := 10) rfl (by kernel_rfl) (fun K hK => ?_)
                  refine step_append_lies _ (by rfl) _ _ _ (by rfl) w1.heap.size 52 ie _ 3 40 Tryd.underlying23 hie he0 he1 he2 rfl (by omega) (.slice ea L.length ec) L.length (encE L) (by rfl) (ownsRow_below HO3.out.ed hwa) ⟨w3.heap.size, 0, none⟩ 1 1 [.int .i64 x, .int .i64 y, .slice none 0 0] (by rfl) (by rfl) (World.news_of_block (cs := #[.int .i64 x, .int .i64 y, .slice none 0 0]) (t := 52) (fr := (0, 0)) (heap_alloc_new w3.drew _)) (by simp [Value.oneCell']) (by omega) (by unfold maxLen; omega) (by omega) (Nat.le_trans hB3 hwa.size) (w3.heap.size + 1) (by simp) ?_
                  intro gg cap1 w4 hown1 hgrow hat hltg
                  obtain ⟨hbox4, hG4⟩ := HO3.out.edge hwa hgrow hown1
                  have x1 : w4.cell? ⟨w1.heap.size, 2, none⟩ = some (.slice ea L.length ec) := by rw [Lib.cell_of_heap hbox4]; rfl
                  have x2 : w4.cell? ⟨gn, 0, none⟩ = some (.int .i64 x) := by rw [hgrow.cell_far _ (Nat.lt_of_lt_of_le hg2 hwa.size) hne]; exact m2
                  have x3 : w4.cell? ⟨gn, 1, none⟩ = some (.int .i64 y) := by rw [hgrow.cell_far _ (Nat.lt_of_lt_of_le hg2 hwa.size) hne]; exact m3
                  have fz4 : w4.frozen? ⟨w1.heap.size, 2, none⟩ = false := Lib.frozen_of_heap hbox4 2
                  refine hK.out _ _ ⟨x1, x2, x3⟩ (fun hHeld => ?_)
                  clear hK K m1 m2 m3 hbox4
                  have HBN := hideg (((HB3.out.trans (hwa.mono hB3)).grown hgrow (Nat.le_trans hB3 hwa.size) (fun j hj => (HO3.out.ed.lt j hj).1)).setCell (p := ⟨w1.heap.size, 2, none⟩) HO3.out.low (.slice (some ⟨gg, 0, none⟩) (L.length + 1) cap1))
                  have HGN := hideg hG4
                  clear hwa hgrow hown1 hG4 hat hltg
                  try simp only [Act.put, List.setIfInBounds_toArray, List.set_cons_zero, List.set_cons_succ]
                  refine take_lit (i := 11) (v := ?_) rfl (by kernel_rfl) (by kernel_rfl) (by kernel_rfl) (fun _ _ _ h => h) (Or.inl ⟨by rfl, ?hy11⟩) (by assumption) ?_
                  case hy11 => (intro w hSw; (try dsimp only at hSw); go_simp; try with_reducible rfl)
                  try simp only [Act.put, List.setIfInBounds_toArray, List.set_cons_zero, List.set_cons_succ]
                  refine wpAnyH_done (by kernel_rfl) ?_ _
                  refine back_last (fun K hK => ?_)
                  clear hHeld
                  go_simp
                  refine hK.out _ _ (NoPanic.normal ?_)
                  clear hK K x1 x2 x3 fz4
                  have HGN : Hid (GO w1.heap.size w1.heap.size (w4.setCell ⟨w1.heap.size, 2, none⟩ (.slice (some ⟨gg, 0, none⟩) (L.length + 1) cap1)) { g with edges := g.edges ++ [(x, y, [])] }) := ⟨_, _, _, HGN.out, by rw [List.map_append, ← hL]; rfl⟩
                  generalize w4.setCell ⟨w1.heap.size, 2, none⟩ (.slice (some ⟨gg, 0, none⟩) (L.length + 1) cap1) = w5 at *
                  cases ob with
                  | false =>
                    clear HPP HGN
                    have HP := hideg (HBadF.out rfl)
                    obtain ⟨r0, r1, r2, f0⟩ := HRes.out w5 HBN.out
                    have HBF := hideg (HBFin.out w5 HBN.out)
                    clear HBN
                    go_wp2
                    rw [HP.out]
                    exact bodyPost_ret (v := .tuple #[.agg #[.int .i64 0, .slice none 0 0, .slice none 0 0], .int .i64 ((k + 1 : Nat) : Int), .int .i64 3]) (by simp [results, Tryd.results15, go_sem, r0, r1, r2]) rfl ⟨_, rfl, ReadAs.none _ _, HBF.out _ _ _⟩
                  | true =>
                    obtain ⟨hnx1, hnx2⟩ := HNext.out rfl _ HPP.out
                    have HNX := hideg hnx2
                    have HSM := hideg (HSk.out.line hnx1)
                    clear HPP hnx1 hnx2
                    go_wp2
                    go_roundw
                    case rel => exact ⟨k + 1, _, HKN.out rfl, trivial, by go_num, HGN.out, HSM.out, HNX.out, HBN.out⟩
                    case measure => simp [intOf]; omega
                · have hz2 : ¬ (ns.length : Int) = 2 := by omega
                  obtain ⟨vo, vc, rfl, _, _⟩ := row_form hv
                  have HP := hideg (HBadP.out (put_E hn))
                  obtain ⟨r0, r1, r2, f0⟩ := HRes.out w3 HB3.out
                  have HBF := hideg (HBFin.out w3 HB3.out)
                  clear hv p0 p1 HNext HBadF HBadP
                  go_wp2
                  all_goals
                    rw [HP.out]
                    exact bodyPost_ret (v := .tuple #[.agg #[.int .i64 0, .slice none 0 0, .slice none 0 0], .int .i64 ((k + 1 : Nat) : Int), .int .i64 3]) (by simp [results, Tryd.results15, go_sem, r0, r1, r2]) rfl ⟨_, rfl, ReadAs.none _ _, HBF.out _ _ _⟩
              · have kE : (s0.toList == [101, 100, 103, 101]) = false := k_ne hKE
                by_cases hKL : s0.data.toList = wLeg
                · have kL : (s0.toList == [108, 101, 103]) = true := by rw [k_eq hKL]; rfl
                  rw [hKL] at HNext HBadP
                  clear hKV hKT hKE hKL
                  by_cases hn : ns.length = 4 ∧ L ≠ []
                  · obtain ⟨hn, hLn⟩ := hn
                    obtain ⟨x, y, z, u, rfl⟩ := len4 hn
                    have HPP := hideg (put_L1 (g := g) (a := x) (b := y) (c := z) (d := u) (fun k => hLn (HLE.out.1 k)))
                    obtain ⟨gn, vc, rfl, hg1, hg2⟩ := hv.form (by simp)
                    obtain ⟨cn, hcn⟩ := row_block hv (b := gn) rfl
                    have n0 := hv.cellAt 0 (by simp)
                    have n1 := hv.cellAt 1 (by simp)
                    have n2 := hv.cellAt 2 (by simp)
                    have n3 := hv.cellAt 3 (by simp)
                    simp only [List.map_cons, List.map_nil, List.getElem?_cons_zero, List.getElem?_cons_succ, List.length_cons, List.length_nil, Nat.zero_add, Nat.reduceAdd] at n0 n1 n2 n3 ⊢
                    clear hv hn p0 p1 HLE HBadP
                    obtain ⟨M', p, hMp⟩ : ∃ M' p, L = M' ++ [p] := by
                      rcases List.eq_nil_or_concat L with k | ⟨M', p, k⟩
                      · exact absurd k hLn
                      · exact ⟨M', p, by rw [k, List.concat_eq_append]⟩
                    subst hMp
                    obtain ⟨⟨A, C, legs⟩, v⟩ := p
                    have hlm : (M' ++ [((A, C, legs), v)]).length = M'.length + 1 := by simp
                    simp only [hlm] at p2 HO3 i5 hl10 ⊢
                    have hlr := HO3.out.lg ((A, C, legs), v) (by simp)
                    have hl6 : legs.length ≤ 10000 := HS.out.lg (A, C, legs) (by rw [hL]; simp)
                    obtain ⟨ge, ec', he, hge1, hge2⟩ := HO3.out.ed.form (by simp)
                    simp only [hlm] at he
                    rw [he] at p2 HO3
                    simp only [Value.slice.injEq, true_and] at he
                    obtain ⟨rfl, rfl⟩ := he
                    simp only at hlr
                    obtain ⟨lo, lcap, rfl, _, _⟩ := row_form hlr
                    have hed := HO3.out.ed
                    rw [hlm] at hed
                    have q2 : w3.cell? ⟨ge, M'.length * 3 + 2, none⟩ = some (.slice lo legs.length lcap) := by
                      rw [hed.cellAt _ (by omega)]
                      have := (encE_get (M' ++ [((A, C, legs), .slice lo legs.length lcap)]) M'.length (by simp)).2.2
                      simpa using this
                    have hne : some gn ≠ (Value.slice lo legs.length lcap).ownBlock := fun k => row_ne hlr hcn (by decide) k.symm
                    have j1 : ((M'.length + 1 : Nat) : Int) - 1 = (M'.length : Int) := by omega
                    have j2 : (M'.length : Int) < ((M'.length + 1 : Nat) : Int) := by omega
                    have j2' : (M'.length : Int) < (M'.length : Int) + 1 := by omega
                    have j3 : (0 : Int) ≤ (M'.length : Int) := by omega
                    have j4 : (0 : Int) < ((M'.length + 1 : Nat) : Int) := by omega
                    have j5 : (0 : Int) < (M'.length : Int) + 1 := by omega
                    rw [j1] at i5
                    clear hlm hcn hed hLn
                    go_wp2_with fail
                    refine wp_region_noPanic ?_
                    refine wp_region_back (S := fun w' => w'.cell? ⟨ge, M'.length * 3 + 2, none⟩ = some (.slice lo legs.length lcap) ∧ w'.cell? ⟨gn, 0, none⟩ = some (.int .i64 x) ∧ w'.cell? ⟨gn, 1, none⟩ = some (.int .i64 y) ∧ w'.cell? ⟨gn, 2, none⟩ = some (.int .i64 z) ∧ w'.cell? ⟨gn, 3, none⟩ = some (.int .i64 u)) (by kernel_rfl) (by simp) (by kernel_rfl) (by kernel_rfl) ⟨q2, n0, n1, n2, n3⟩ (fun hHeld => ?_)
                    simp only [List.pop_toArray, List.dropLast, List.back!_toArray, List.getLast!]
                    refine take_lit (i := 0) (v := ?_) rfl (by kernel_rfl) (by kernel_rfl) (by kernel_rfl) (fun _ _ _ h => h) (Or.inl ⟨by rfl, ?hy0⟩) (by assumption) ?_
                    case hy0 => (intro w hSw; (try dsimp only at hSw); go_simp; try with_reducible rfl)
                    try simp only [Act.put, List.setIfInBounds_toArray, List.set_cons_zero, List.set_cons_succ]
                    refine take_lit (i := 1) (v := ?_) rfl (by kernel_rfl) (by kernel_rfl) (by kernel_rfl) (fun _ _ _ h => h) (Or.inl ⟨by rfl, ?hy1⟩) (by assumption) ?_
                    case hy1 => (intro w hSw; (try dsimp only at hSw); go_simp; try with_reducible rfl)
                    try simp only [Act.put, List.setIfInBounds_toArray, List.set_cons_zero, List.set_cons_succ]
                    refine take_lit (i := 2) (v := ?_) rfl (by kernel_rfl) (by kernel_rfl) (by kernel_rfl) (fun _ _ _ h => h) (Or.inl ⟨by rfl, ?hy2⟩) (by assumption) ?_
                    case hy2 => (intro w hSw; (try dsimp only at hSw); go_simp; try with_reducible rfl)
                    try simp only [Act.put, List.setIfInBounds_toArray, List.set_cons_zero, List.set_cons_succ]
                    refine take_lit (i := 3) (v := ?_) rfl (by kernel_rfl) (by kernel_rfl) (by kernel_rfl) (fun _ _ _ h => h) (Or.inl ⟨by rfl, ?hy3⟩) (by assumption) ?_
                    case hy3 => (intro w hSw; (try dsimp only at hSw); go_simp; try with_reducible rfl)
                    try simp only [Act.put, List.setIfInBounds_toArray, List.set_cons_zero, List.set_cons_succ]
                    refine take_lit (i := 4) (v := ?_) rfl (by kernel_rfl) (by kernel_rfl) (by kernel_rfl) (fun _ _ _ h => h) (Or.inl ⟨by rfl, ?hy4⟩) (by assumption) ?_
                    case hy4 => (intro w hSw; (try dsimp only at hSw); go_simp; try with_reducible rfl)
                    try simp only [Act.put, List.setIfInBounds_toArray, List.set_cons_zero, List.set_cons_succ]
                    refine take_lit (i := 5) (v := ?_) rfl (by kernel_rfl) (by kernel_rfl) (by kernel_rfl) (fun _ _ _ h => h) (Or.inl ⟨by rfl, ?hy5⟩) (by assumption) ?_
                    case hy5 => (intro w hSw; (try dsimp only at hSw); go_simp; try with_reducible rfl)
                    try simp only [Act.put, List.setIfInBounds_toArray, List.set_cons_zero, List.set_cons_succ]
                    refine take_lit (i := 6) (v := ?_) rfl (by kernel_rfl) (by kernel_rfl) (by kernel_rfl) (fun _ _ _ h => h) (Or.inl ⟨by rfl, ?hy6⟩) (by assumption) ?_
                    case hy6 => (intro w hSw; (try dsimp only at hSw); go_simp; try with_reducible rfl)
                    try simp only [Act.put, List.setIfInBounds_toArray, List.set_cons_zero, List.set_cons_succ]
                    refine take_lit (i := 7) (v := ?_) rfl (by kernel_rfl) (by kernel_rfl) (by kernel_rfl) (fun _ _ _ h => h) (Or.inl ⟨by rfl, ?hy7⟩) (by assumption) ?_
                    case hy7 => (intro w hSw; (try dsimp only at hSw); go_simp; try with_reducible rfl)
                    try simp only [Act.put, List.setIfInBounds_toArray, List.set_cons_zero, List.set_cons_succ]
                    refine take_lit (i := 8) (v := ?_) rfl (by kernel_rfl) (by kernel_rfl) (by kernel_rfl) (fun _ _ _ h => h) (Or.inl ⟨by rfl, ?hy8⟩) (by assumption) ?_
                    case hy8 => (intro w hSw; (try dsimp only at hSw); go_simp; try with_reducible rfl)
                    try simp only [Act.put, List.setIfInBounds_toArray, List.set_cons_zero, List.set_cons_succ]
                    refine take_lit (i := 9) (v := ?_) rfl (by kernel_rfl) (by kernel_rfl) (by kernel_rfl) (fun _ _ _ h => h) (Or.inl ⟨by rfl, ?hy9⟩) (by assumption) ?_
                    case hy9 => (intro w hSw; (try dsimp only at hSw); go_simp; try with_reducible rfl)
                    try simp only [Act.put, List.setIfInBounds_toArray, List.set_cons_zero, List.set_cons_succ]
                    refine take_lit (i := 10) (v := ?_) rfl (by kernel_rfl) (by kernel_rfl) (by kernel_rfl) (fun _ _ _ h => h) (Or.inl ⟨by rfl, ?hy10⟩) (by assumption) ?_
                    case hy10 => (intro w hSw; (try dsimp only at hSw); go_simp; try with_reducible rfl)
                    try simp only [Act.put, List.setIfInBounds_toArray, List.set_cons_zero, List.set_cons_succ]
                    refine take_lit (i := 11) (v := ?_) rfl (by kernel_rfl) (by kernel_rfl) (by kernel_rfl) (fun _ _ _ h => h) (Or.inl ⟨by rfl, ?hy11⟩) (by assumption) ?_
                    case hy11 => (intro w hSw; (try dsimp only at hSw); go_simp; try with_reducible rfl)
                    try simp only [Act.put, List.setIfInBounds_toArray, List.set_cons_zero, List.set_cons_succ]
                    refine take_lit (i := 12) (v := ?_) rfl (by kernel_rfl) (by kernel_rfl) (by kernel_rfl) (fun _ _ _ h => h) (Or.inl ⟨by rfl, ?hy12⟩) (by assumption) ?_
                    case hy12 => (intro w hSw; (try dsimp only at hSw); go_simp; try with_reducible rfl)
                    try simp only [Act.put, List.setIfInBounds_toArray, List.set_cons_zero, List.set_cons_succ]
                    refine take_lit (i := 13) (v := ?_) rfl (by kernel_rfl) (by kernel_rfl) (by kernel_rfl) (fun _ _ _ h => h) (Or.inl ⟨by rfl, ?hy13⟩) (by assumption) ?_
                    case hy13 => (intro w hSw; (try dsimp only at hSw); go_simp; try with_reducible rfl)
                    try simp only [Act.put, List.setIfInBounds_toArray, List.set_cons_zero, List.set_cons_succ]
                    refine take_lit (i := 14) (v := ?_) rfl (by kernel_rfl) (by kernel_rfl) (by kernel_rfl) (fun _ _ _ h => h) (Or.inl ⟨by rfl, ?hy14⟩) (by assumption) ?_
                    case hy14 => (intro w hSw; (try dsimp only at hSw); go_simp; try with_reducible rfl)
                    try simp only [Act.put, List.setIfInBounds_toArray, List.set_cons_zero, List.set_cons_succ]
                    refine take_lit (i := 15) (v := ?_) rfl (by kernel_rfl) (by kernel_rfl) (by kernel_rfl) (fun _ _ _ h => h) (Or.inl ⟨by rfl, ?hy15⟩) (by assumption) ?_
                    case hy15 => (intro w hSw; (try dsimp only at hSw); go_simp; try with_reducible rfl)
                    try simp only [Act.put, List.setIfInBounds_toArray, List.set_cons_zero, List.set_cons_succ]
                    refine take_lit (i := 16) (v := ?_) rfl (by kernel_rfl) (by kernel_rfl) (by kernel_rfl) (fun _ _ _ h => h) (Or.inl ⟨by rfl, ?hy16⟩) (by assumption) ?_
                    case hy16 => (intro w hSw; (try dsimp only at hSw); go_simp; try with_reducible rfl)
                    try simp only [Act.put, List.setIfInBounds_toArray, List.set_cons_zero, List.set_cons_succ]
                    refine take_lit (i := 17) (v := ?_) rfl (by kernel_rfl) (by kernel_rfl) (by kernel_rfl) (fun _ _ _ h => h) (Or.inl ⟨by rfl, ?hy17⟩) (by assumption) ?_
                    case hy17 => (intro w hSw; (try dsimp only at hSw); go_simp; try with_reducible rfl)
                    try simp only [Act.put, List.setIfInBounds_toArray, List.set_cons_zero, List.set_cons_succ]
                    refine next_lit (i := 18) rfl (by kernel_rfl) (fun K hK => ?_)
                    go_simp
                    have hwa : Below w3.heap.size w3 (w3.drew.alloc (.cells #[.int .i64 x, .int .i64 y, .int .i64 z, .int .i64 u] 54)) := (Below.refl _ _).drew.alloc (Nat.le_refl _) _
                    have m1 := (hwa.cell (p := ⟨ge, M'.length * 3 + 2, none⟩) hge2).trans q2
                    have m2 := (hwa.cell (p := ⟨gn, 0, none⟩) hg2).trans n0
                    have m3 := (hwa.cell (p := ⟨gn, 1, none⟩) hg2).trans n1
                    have m4 := (hwa.cell (p := ⟨gn, 2, none⟩) hg2).trans n2
                    have m5 := (hwa.cell (p := ⟨gn, 3, none⟩) hg2).trans n3
                    refine hK.out _ _ ⟨m1, m2, m3, m4, m5⟩ (fun hHeld => ?_)
                    clear hK K hHeld
                    try simp only [Act.put, List.setIfInBounds_toArray, List.set_cons_zero, List.set_cons_succ]
                    refine next_lit (i := 19) rfl (by kernel_rfl) (fun K hK => ?_)
                    refine step_append_lies _ (by rfl) _ _ _ (by rfl) w1.heap.size 54 il _ 4 32 Tryd.underlying50 hil hl0 hl1 hl2 rfl (by omega) (.slice lo legs.length lcap) legs.length (enc4 legs) (by rfl) (ownsRow_below hlr hwa) ⟨w3.heap.size, 0, none⟩ 1 1 [.int .i64 x, .int .i64 y, .int .i64 z, .int .i64 u] (by rfl) (by rfl) (World.news_of_block (cs := #[.int .i64 x, .int .i64 y, .int .i64 z, .int .i64 u]) (t := 54) (fr := (0, 0)) (heap_alloc_new w3.drew _)) (by simp [Value.oneCell']) (by omega) (by unfold maxLen; omega) (by omega) (Nat.le_trans hB3 hwa.size) (w3.heap.size + 1) (by simp) ?_
                    intro gg cap1 w4 hown1 hgrow hat hltg
                    obtain ⟨hbox4, x1, fz4, hG4⟩ := HO3.out.leg (l := (x, y, z, u)) hwa hgrow hown1 hat (by omega)
                    have x2 : w4.cell? ⟨gn, 0, none⟩ = some (.int .i64 x) := by rw [hgrow.cell_far _ (Nat.lt_of_lt_of_le hg2 hwa.size) hne]; exact m2
                    have x3 : w4.cell? ⟨gn, 1, none⟩ = some (.int .i64 y) := by rw [hgrow.cell_far _ (Nat.lt_of_lt_of_le hg2 hwa.size) hne]; exact m3
                    have x4 : w4.cell? ⟨gn, 2, none⟩ = some (.int .i64 z) := by rw [hgrow.cell_far _ (Nat.lt_of_lt_of_le hg2 hwa.size) hne]; exact m4
                    have x5 : w4.cell? ⟨gn, 3, none⟩ = some (.int .i64 u) := by rw [hgrow.cell_far _ (Nat.lt_of_lt_of_le hg2 hwa.size) hne]; exact m5
                    refine hK.out _ _ ⟨x1, x2, x3, x4, x5⟩ (fun hHeld => ?_)
                    clear hK K m1 m2 m3 m4 m5 hbox4
                    have HBN := hideg (((HB3.out.trans (hwa.mono hB3)).grown hgrow (Nat.le_trans hB3 hwa.size) (fun j hj => (hlr.lt j hj).1)).setCell (p := ⟨ge, M'.length * 3 + 2, none⟩) hge1 (.slice (some ⟨gg, 0, none⟩) (legs.length + 1) cap1))
                    have HGN := hideg hG4
                    clear hwa hgrow hown1 hG4 hat hltg
                    try simp only [Act.put, List.setIfInBounds_toArray, List.set_cons_zero, List.set_cons_succ]
                    refine take_lit (i := 20) (v := ?_) rfl (by kernel_rfl) (by kernel_rfl) (by kernel_rfl) (fun _ _ _ h => h) (Or.inl ⟨by rfl, ?hy20⟩) (by assumption) ?_
                    case hy20 => (intro w hSw; (try dsimp only at hSw); go_simp; try with_reducible rfl)
                    try simp only [Act.put, List.setIfInBounds_toArray, List.set_cons_zero, List.set_cons_succ]
                    refine take_lit (i := 21) (v := ?_) rfl (by kernel_rfl) (by kernel_rfl) (by kernel_rfl) (fun _ _ _ h => h) (Or.inl ⟨by rfl, ?hy21⟩) (by assumption) ?_
                    case hy21 => (intro w hSw; (try dsimp only at hSw); go_simp; try with_reducible rfl)
                    try simp only [Act.put, List.setIfInBounds_toArray, List.set_cons_zero, List.set_cons_succ]
                    refine wpAnyH_done (by kernel_rfl) ?_ _
                    refine back_last (fun K hK => ?_)
                    clear hHeld
                    go_simp
                    refine hK.out _ _ (NoPanic.normal ?_)
                    clear hK K x1 x2 x3 x4 x5 fz4
                    have HGN : Hid (GO w1.heap.size w1.heap.size (w4.setCell ⟨ge, M'.length * 3 + 2, none⟩ (.slice (some ⟨gg, 0, none⟩) (legs.length + 1) cap1)) { g with edges := putLeg g.edges (x, y, z, u) }) := ⟨_, _, _, HGN.out, by simp only [hL, List.map_append, List.map_cons, List.map_nil, putLeg_snoc]⟩
                    generalize w4.setCell ⟨ge, M'.length * 3 + 2, none⟩ (.slice (some ⟨gg, 0, none⟩) (legs.length + 1) cap1) = w5 at *
                    cases ob with
                    | false =>
                      clear HPP HGN
                      have HP := hideg (HBadF.out rfl)
                      obtain ⟨r0, r1, r2, f0⟩ := HRes.out w5 HBN.out
                      have HBF := hideg (HBFin.out w5 HBN.out)
                      clear HBN
                      go_wp2
                      rw [HP.out]
                      exact bodyPost_ret (v := .tuple #[.agg #[.int .i64 0, .slice none 0 0, .slice none 0 0], .int .i64 ((k + 1 : Nat) : Int), .int .i64 3]) (by simp [results, Tryd.results15, go_sem, r0, r1, r2]) rfl ⟨_, rfl, ReadAs.none _ _, HBF.out _ _ _⟩
                    | true =>
                      obtain ⟨hnx1, hnx2⟩ := HNext.out rfl _ HPP.out
                      have HNX := hideg hnx2
                      have HSM := hideg (HSk.out.line hnx1)
                      clear HPP hnx1 hnx2
                      go_wp2
                      go_roundw
                      case rel => exact ⟨k + 1, _, HKN.out rfl, trivial, by go_num, HGN.out, HSM.out, HNX.out, HBN.out⟩
                      case measure => simp [intOf]; omega
                  · have hz : ns.length ≠ 4 ∨ g.edges = [] := by
                      rcases Nat.decEq ns.length 4 with q | q
                      · exact .inl q
                      · exact .inr (by
                          by_cases e : L = []
                          · exact HLE.out.2 e
                          · exact absurd ⟨q, e⟩ hn)
                    have hz2 : ¬ (ns.length : Int) = 4 ∨ (ns.length : Int) = 4 ∧ L = [] := by
                      rcases Nat.decEq ns.length 4 with q | q
                      · exact .inl (by omega)
                      · refine .inr ⟨by omega, ?_⟩
                        by_cases e : L = []
                        · exact e
                        · exact absurd ⟨q, e⟩ hn
                    rcases hz2 with hz2 | ⟨hz2, rfl⟩
                    · obtain ⟨vo, vc, rfl, _, _⟩ := row_form hv
                      have HP := hideg (HBadP.out (put_L hz))
                      obtain ⟨r0, r1, r2, f0⟩ := HRes.out w3 HB3.out
                      have HBF := hideg (HBFin.out w3 HB3.out)
                      clear hv p0 p1 HNext HBadF HBadP
                      go_wp2
                      all_goals
                        rw [HP.out]
                        exact bodyPost_ret (v := .tuple #[.agg #[.int .i64 0, .slice none 0 0, .slice none 0 0], .int .i64 ((k + 1 : Nat) : Int), .int .i64 3]) (by simp [results, Tryd.results15, go_sem, r0, r1, r2]) rfl ⟨_, rfl, ReadAs.none _ _, HBF.out _ _ _⟩
                    · obtain ⟨vo, vc, rfl, _, _⟩ := row_form hv
                      have HP := hideg (HBadP.out (put_L hz))
                      obtain ⟨r0, r1, r2, f0⟩ := HRes.out w3 HB3.out
                      have HBF := hideg (HBFin.out w3 HB3.out)
                      clear hv p0 p1 HNext HBadF HBadP
                      go_wp2
                      all_goals
                        rw [HP.out]
                        exact bodyPost_ret (v := .tuple #[.agg #[.int .i64 0, .slice none 0 0, .slice none 0 0], .int .i64 ((k + 1 : Nat) : Int), .int .i64 3]) (by simp [results, Tryd.results15, go_sem, r0, r1, r2]) rfl ⟨_, rfl, ReadAs.none _ _, HBF.out _ _ _⟩
                · have kL : (s0.toList == [108, 101, 103]) = false := k_ne hKL
                  obtain ⟨vo, vc, rfl, _, _⟩ := row_form hv
                  have HP := hideg (HBadP.out (put_X hKT hKV hKE hKL))
                  obtain ⟨r0, r1, r2, f0⟩ := HRes.out w3 HB3.out
                  have HBF := hideg (HBFin.out w3 HB3.out)
                  clear hv p0 p1 HNext HBadF HBadP
                  go_wp2
                  all_goals
                    rw [HP.out]
                    exact bodyPost_ret (v := .tuple #[.agg #[.int .i64 0, .slice none 0 0, .slice none 0 0], .int .i64 ((k + 1 : Nat) : Int), .int .i64 3]) (by simp [results, Tryd.results15, go_sem, r0, r1, r2]) rfl ⟨_, rfl, ReadAs.none _ _, HBF.out _ _ _⟩
    · have hkM : k = M.length := by omega
      subst hkM
      have HRR : Hid (rdP g0 1 true (sp 10 s.data.toList) = .inl g) := by
        show _ = _
        have hkl : M.length < (sp 10 s.data.toList).length := by rw [HLW.out]; omega
        have e1 : (sp 10 s.data.toList).drop M.length = [[]] := by
          obtain ⟨_, q⟩ := HGet.out M.length (by simp)
          rw [List.drop_eq_getElem_cons hkl, List.drop_eq_nil_of_le (by rw [HLW.out]; omega), q]
          simp [hwa1]
        rw [HR.out, e1, show (M.length == 0) = false by simpa using (by omega : M.length ≠ 0)]
        exact rdP_end _ _
      have HP := hideg (HPg.out g HRR.out)
      obtain ⟨vL, vE, L, hO, hL⟩ := HG.out
      have HV : Hid (ReadAs w1.heap.size wr (.agg #[.int .i64 g.hor, vL, vE]) g) := ⟨_, _, L, rfl, hO.rw, hL⟩
      have hbx := hO.box
      obtain ⟨la, lc, ea, ec, hv, hga, _, _⟩ := HV.out.gat
      have e3 : vL = .slice la g.lives.length lc ∧ vE = .slice ea g.edges.length ec := by
        simp only [Value.agg.injEq, Array.mk.injEq, List.cons.injEq, and_true, true_and] at hv
        exact hv
      obtain ⟨rfl, rfl⟩ := e3
      have HC := hideg (RGraph_any g la ea lc ec wr hga)
      have p0 : wr.cell? ⟨w1.heap.size, 0, none⟩ = some (.int .i64 g.hor) := by rw [Lib.cell_of_heap hbx]; rfl
      have p1 : wr.cell? ⟨w1.heap.size, 1, none⟩ = some (.slice la g.lives.length lc) := by rw [Lib.cell_of_heap hbx]; rfl
      have p2 : wr.cell? ⟨w1.heap.size, 2, none⟩ = some (.slice ea g.edges.length ec) := by rw [Lib.cell_of_heap hbx]; rfl
      have hbl := heap_ltg hbx
      clear hbx hO hga hv hL
      go_wp2_with fail
      refine HC.out.mono ?_
      rintro e w2 ⟨rfl, hb2⟩
      have q0 := (hb2.cell (p := ⟨w1.heap.size, 0, none⟩) hbl).trans p0
      have q1 := (hb2.cell (p := ⟨w1.heap.size, 1, none⟩) hbl).trans p1
      have q2 := (hb2.cell (p := ⟨w1.heap.size, 2, none⟩) hbl).trans p2
      have HB2 := hideg (HBw.out.trans (hb2.mono hszr))
      have HV2 := hideg (HV.out.below hb2)
      obtain ⟨r0, r1, r2, f0⟩ := HRes.out w2 HB2.out
      clear hb2 p0 p1 p2 HC
      by_cases h0 : gChk g = 0
      · rw [if_pos h0] at HP
        have HRd : Hid (∀ a b c, ReadAs w1.heap.size (((w2.setCell ⟨w.heap.size, 0, none⟩ a).setCell ⟨w.heap.size, 1, none⟩ b).setCell ⟨w.heap.size, 2, none⟩ c) (.agg #[.int .i64 g.hor, .slice la g.lives.length lc, .slice ea g.edges.length ec]) g) := fun a b c => ((HV2.out.setLow (R := w.heap.size) hz1 0 a).setLow (R := w.heap.size) hz1 1 b).setLow (R := w.heap.size) hz1 2 c
        go_wp2
        rw [HP.out]
        exact bodyPost_ret (v := .tuple #[.agg #[.int .i64 g.hor, .slice la g.lives.length lc, .slice ea g.edges.length ec], .int .i64 0, .int .i64 0]) (by simp [results, Tryd.results15, go_sem, r0, r1, r2]) rfl ⟨_, rfl, (HRd.out _ _ _).base (by omega), HBFin.out w2 HB2.out _ _ _⟩
      · rw [if_neg h0] at HP
        go_wp2
        rw [HP.out]
        exact bodyPost_ret (v := .tuple #[.agg #[.int .i64 0, .slice none 0 0, .slice none 0 0], .int .i64 0, .int .i64 (gChk g)]) (by simp [results, Tryd.results15, go_sem, r0, r1, r2]) rfl ⟨_, rfl, ReadAs.none _ _, HBFin.out w2 HB2.out _ _ _⟩

end Go.Proofs.YtjjhhmlogddnkaaDoor
