/-
  What GraphText of the reference tells: what Print of the program tells of a right graph.
-/
import Derived.Test.YthgelfnflafoiaaDoorRRow
namespace Go.Proofs.YthgelfnflafoiaaDoor
open Go.RowKit

/-- numbers in a new block -/
theorem zsAt_new (w : World) (ns : List Int) (cs : Array Value) (t : TypeId) (hcs : cs = (ns.map (Value.int .i64)).toArray) : ZsAt (w.alloc (.cells cs t)) (some ⟨w.heap.size, 0, none⟩) ns := by
  subst hcs
  refine .inr ⟨w.heap.size, 0, rfl, by simp, fun j hj => ?_⟩
  rw [Lib.cell_of_heap (heap_alloc_new w _)]
  simp [List.getD_eq_getElem?_getD, List.getElem?_eq_getElem hj]

set_option maxHeartbeats 8000000 in
set_option maxRecDepth 100000 in
theorem GraphText_any (g : Gr) (la ea : Option Addr) (lc ec : Nat) (w : World) (hG : GAt w la ea g) (S : Small g) (hT : Tab w) :
    Calls Tryd.prog 6 #[.agg #[.int .i64 g.hor, .slice la g.lives.length lc, .slice ea g.edges.length ec]] w fun r w' => r = .returned (.string ⟨(gText g).toArray⟩) ∧ Below w.heap.size w w' := by
  have HB := hideg (gal w)
  obtain ⟨h, lives, edges⟩ := g
  simp only
  have HS := hideg S
  have hh := S.hor
  simp only at hh
  have hlv : lives.length ≤ 12 := S.lvs
  have hed : edges.length ≤ 30 := S.eds
  have HG := hideg hG
  have HT := hideg hT.low
  have HL0 := hideg (show (line wTime [h]).length ≤ 20 by have := line_len (w := wTime) (ns := [h]) (by simpa using hh); simp [wTime] at this ⊢; omega)
  clear hG hT S
  go_enter Tryd.func6, Tryd.ntmps6
  go_wp2_with fail
  refine (row_any ⟨#[116, 105, 109, 101]⟩ (some ⟨w.heap.size + 1, 0, none⟩) 1 [h] _ (by rw [show w.heap.size + 1 = (w.alloc (.cells #[.int .i64 h, .slice la lives.length lc, .slice ea edges.length ec] 25)).heap.size by simp]; exact zsAt_new _ _ _ _ rfl) ((HT.out.below (HB.out _)).below ((gal _ _).mono (by simp))).tab (by decide) (by simp) (by simpa using hh)).mono ?_
  rintro e w1 ⟨rfl, hb1⟩
  have HB1 := hideg (ptg (gal _ _) hb1)
  clear hb1
  go_wp2_with fail
  go_loopw [3, 4] (fun s i wr => ∃ k : Nat, k ≤ lives.length ∧ i = .int .i64 k ∧ s = .string ⟨(line wTime [h] ++ (lives.take k).flatMap lvText).toArray⟩ ∧ Below (w.heap.size + 1) (w.alloc (.cells #[.int .i64 h, .slice la lives.length lc, .slice ea edges.length ec] 25)) wr) (fun _ i _ => lives.length - (intOf i).toNat)
  case atStart => exact ⟨0, Nat.zero_le _, rfl, by simp [wTime], by simpa using HB1.out⟩
  case round =>
    clear HB1
    obtain ⟨k, hk, rfl, rfl, hb⟩ := hrel
    have hbw : Below w.heap.size w wr := (HB.out _).trans (hb.mono (by omega))
    have hz := hb.size
    simp only [World.size_alloc] at hz
    have hz0 : w.heap.size < wr.heap.size := by omega
    have q1 : wr.cell? ⟨w.heap.size, 1, none⟩ = some (.slice la lives.length lc) := by rw [hb.cell (p := ⟨w.heap.size, 1, none⟩) (by simp)]; simp
    have q2 : wr.cell? ⟨w.heap.size, 2, none⟩ = some (.slice ea edges.length ec) := by rw [hb.cell (p := ⟨w.heap.size, 2, none⟩) (by simp)]; simp
    have hlen : (line wTime [h] ++ (lives.take k).flatMap lvText).length ≤ 1000 := by
      have h1 := HL0.out
      have h2 := fm_len lvText 17 lives k (lv_len HS.out)
      rw [List.length_append]; omega
    by_cases hlt : k < lives.length
    · rcases HG.out.lv.below hbw with h0 | ⟨b, off, rfl, hbr, hc⟩
      · simp only at h0; subst h0; simp at hlt
      simp only at hc
      obtain ⟨c0, c1⟩ := IvAt.get hlt hc
      have hn := hideg (HS.out.life lives[k] (List.getElem_mem hlt))
      have hll := lv_len HS.out lives[k] (List.getElem_mem hlt)
      have HF := fm_take lvText lives k hlt
      have HSt : Hid (∀ T L, T = line wTime [h] ++ (lives.take k).flatMap lvText → L = lvText lives[k] → (⟨T.toArray⟩ ++ ⟨L.toArray⟩ : ByteArray) = ⟨(line wTime [h] ++ (lives.take (k + 1)).flatMap lvText).toArray⟩) := by
        intro T L e1 e2
        rw [mkapp, e1, e2, HF, List.append_assoc]
      generalize hT1 : line wTime [h] ++ (lives.take k).flatMap lvText = T at *
      have hrow : Calls Tryd.prog 17 #[.string ⟨#[118, 101, 114, 116, 101, 120]⟩, .slice (some ⟨wr.heap.size, 0, none⟩) 2 2] ((wr.alloc (.cells #[.int .i64 lives[k].1, .int .i64 lives[k].2] 3)).drew) fun e w' => e = .returned (.string ⟨(lvText lives[k]).toArray⟩) ∧ Below wr.heap.size wr w' :=
        (row_any ⟨#[118, 101, 114, 116, 101, 120]⟩ (some ⟨wr.heap.size, 0, none⟩) 2 [lives[k].1, lives[k].2] ((wr.alloc (.cells #[.int .i64 lives[k].1, .int .i64 lives[k].2] 3)).drew) (zsAt_new wr _ _ _ rfl) ((HT.out.below hbw).below ((gal wr _).mono (by omega))).tab (by decide) (by simp) hn.out).mono fun _ _ ⟨h1, h2⟩ => ⟨h1, ptg (gal wr _).drew h2⟩
      have HRow := hideg hrow
      generalize lvText lives[k] = L at *
      have HSt2 := hideg (HSt.out T L rfl rfl)
      have b1 : ¬ (9223372036854775807 < T.length + L.length) := by omega
      have HCS : Hid (∀ w3, Below wr.heap.size wr w3 → w3.cell? ⟨w.heap.size, 1, none⟩ = some (.slice (some ⟨b, off, none⟩) lives.length lc) ∧ w3.cell? ⟨b, off + k * 2, none⟩ = some (.int .i64 lives[k].1) ∧ w3.cell? ⟨b, off + k * 2 + 1, none⟩ = some (.int .i64 lives[k].2)) := fun w3 h3 =>
        ⟨(h3.cell (p := ⟨w.heap.size, 1, none⟩) hz0).trans q1, (h3.cell (p := ⟨b, off + k * 2, none⟩) hbr).trans c0, (h3.cell (p := ⟨b, off + k * 2 + 1, none⟩) hbr).trans c1⟩
      have i1 : (k : Int) < (lives.length : Int) := by omega
      have i2 : (0 : Int) ≤ (k : Int) := by omega
      clear hrow HF HSt hT1 hc
      go_wp2_with fail
      go_region_held3 (fun w' => w'.cell? ⟨w.heap.size, 1, none⟩ = some (.slice (some ⟨b, off, none⟩) lives.length lc) ∧ w'.cell? ⟨b, off + k * 2, none⟩ = some (.int .i64 lives[k].1) ∧ w'.cell? ⟨b, off + k * 2 + 1, none⟩ = some (.int .i64 lives[k].2))
        (first | go_keep | (refine ⟨?_, ?_, ?_⟩ <;> assumption))
        ((go_at_call 17; refine HRow.out.mono ?_; rintro e w3 ⟨rfl, hb3⟩; obtain ⟨k0, k1, k2⟩ := HCS.out w3 hb3))
      clear c0 c1 q1 q2
      go_wp2
      go_roundw
      case rel => exact ⟨k + 1, by omega, by go_num, by rw [HSt2.out], hb.trans (hb3.mono (by omega))⟩
      case measure => simp [intOf]; omega
    · have hke : k = lives.length := by omega
      subst hke
      rw [List.take_length] at *
      obtain ⟨T0, hT0⟩ : ∃ T0, T0 = line wTime [h] ++ lives.flatMap lvText := ⟨_, rfl⟩
      have HT0 := hideg hT0
      have hlT : T0.length ≤ 1000 := by rw [hT0]; exact hlen
      rw [← hT0]
      clear hT0 hlen
      obtain ⟨wo, hwo⟩ : ∃ wo, wo = wr := ⟨_, rfl⟩
      subst hwo
      have HTo := hideg (HT.out.below hbw)
      have HBo := hideg hbw
      have HGo := hideg (HG.out.ed.below hbw)
      clear hb hbw HT HG
      go_wp2_with fail
      go_loopw [3, 5] (fun s i wr => ∃ k : Nat, k ≤ edges.length ∧ i = .int .i64 k ∧ s = .string ⟨(T0 ++ (edges.take k).flatMap edText).toArray⟩ ∧ Below wo.heap.size wo wr) (fun _ i _ => edges.length - (intOf i).toNat)
      case atStart => exact ⟨0, Nat.zero_le _, rfl, by simp, Below.refl _ _⟩
      case round =>
        obtain ⟨k, hk, rfl, rfl, hb⟩ := hrel
        have hz1 := hb.size
        have hz2 : w.heap.size < wr.heap.size := by omega
        have p2 : wr.cell? ⟨w.heap.size, 2, none⟩ = some (.slice ea edges.length ec) := (hb.cell (p := ⟨w.heap.size, 2, none⟩) hz0).trans q2
        have hlen2 : (T0 ++ (edges.take k).flatMap edText).length ≤ 7000 := by
          have h2 := fm_len edText 200 edges k (ed_len HS.out)
          rw [List.length_append]; omega
        by_cases hlt : k < edges.length
        · rcases HGo.out with h0 | ⟨b, off, rfl, hbr, hc⟩
          · subst h0; simp at hlt
          obtain ⟨c0', c1', lo, lcap, c2', hL, _, _⟩ := hc k hlt
          have c0 := (hb.cell (p := ⟨b, off + k * 3, none⟩) hbr).trans c0'
          have c1 := (hb.cell (p := ⟨b, off + k * 3 + 1, none⟩) hbr).trans c1'
          have c2 := (hb.cell (p := ⟨b, off + k * 3 + 2, none⟩) hbr).trans c2'
          have hbr2 : b < wr.heap.size := by omega
          have hm := List.getElem_mem hlt
          have HN := hideg (HS.out.ends edges[k] hm)
          have HNl := hideg (HS.out.legs edges[k] hm)
          have HLl := hideg (fm_len lgText 24 edges[k].2.2 · (lg_len HS.out hm))
          have HLe := hideg (lg_len HS.out hm)
          have HF := hideg (fm_take edText edges k hlt)
          have HLg := hideg hL
          clear c0' c1' c2' hc hL hm
          generalize edges[k] = ed at *
          obtain ⟨A, B, legs⟩ := ed
          simp only at HN HNl HLl HF HLg c0 c1 c2 HLe
          have h6 : legs.length ≤ 6 := HN.out.2
          have hll : (line wEdge [A, B]).length ≤ 20 := by
            have h2 := line_len (w := wEdge) HN.out.1
            simp [wEdge] at h2 ⊢; omega
          have HRow : Hid (Calls Tryd.prog 17 #[.string ⟨#[101, 100, 103, 101]⟩, .slice (some ⟨wr.heap.size, 0, none⟩) 2 2] ((wr.alloc (.cells #[.int .i64 A, .int .i64 B] 3)).drew) fun e w' => e = .returned (.string ⟨(line wEdge [A, B]).toArray⟩) ∧ Below wr.heap.size wr w') :=
            (row_any ⟨#[101, 100, 103, 101]⟩ (some ⟨wr.heap.size, 0, none⟩) 2 [A, B] ((wr.alloc (.cells #[.int .i64 A, .int .i64 B] 3)).drew) (zsAt_new wr _ _ _ rfl) (((HTo.out.mono (by omega)).below hb).below ((gal wr _).mono hz1)).tab (by decide) (by simp) HN.out.1).mono fun _ _ ⟨h1, h2⟩ => ⟨h1, ptg (gal wr _).drew h2⟩
          have HSt : Hid ((⟨(T0 ++ (edges.take k).flatMap edText).toArray⟩ ++ ⟨(line wEdge [A, B]).toArray⟩ : ByteArray) = ⟨(T0 ++ (edges.take k).flatMap edText ++ line wEdge [A, B]).toArray⟩) := mkapp _ _
          have HEnd : Hid (∀ X, X = T0 ++ (edges.take k).flatMap edText → X ++ line wEdge [A, B] ++ legs.flatMap lgText = T0 ++ (edges.take (k + 1)).flatMap edText) := by
            intro X hX
            rw [HF.out, edText, hX]; simp
          generalize hX : T0 ++ (edges.take k).flatMap edText = X at *
          have HEnd2 := hideg (HEnd.out X rfl)
          generalize hY : line wEdge [A, B] = Y at *
          have b1 : ¬ (9223372036854775807 < X.length + Y.length) := by omega
          have HCS : Hid (∀ w3, Below wr.heap.size wr w3 → w3.cell? ⟨w.heap.size, 2, none⟩ = some (.slice (some ⟨b, off, none⟩) edges.length ec) ∧ w3.cell? ⟨b, off + k * 3, none⟩ = some (.int .i64 A) ∧ w3.cell? ⟨b, off + k * 3 + 1, none⟩ = some (.int .i64 B)) := fun w3 h3 =>
            ⟨(h3.cell (p := ⟨w.heap.size, 2, none⟩) hz2).trans p2, (h3.cell (p := ⟨b, off + k * 3, none⟩) hbr2).trans c0, (h3.cell (p := ⟨b, off + k * 3 + 1, none⟩) hbr2).trans c1⟩
          have i1 : (k : Int) < (edges.length : Int) := by omega
          have i2 : (0 : Int) ≤ (k : Int) := by omega
          have HC2 := hideg c2
          clear HF HEnd hX hY c2
          go_wp2_with fail
          go_region_held3 (fun w' => w'.cell? ⟨w.heap.size, 2, none⟩ = some (.slice (some ⟨b, off, none⟩) edges.length ec) ∧ w'.cell? ⟨b, off + k * 3, none⟩ = some (.int .i64 A) ∧ w'.cell? ⟨b, off + k * 3 + 1, none⟩ = some (.int .i64 B))
            (first | go_keep | (refine ⟨?_, ?_, ?_⟩ <;> assumption))
            ((go_at_call 17; refine HRow.out.mono ?_; rintro e w3 ⟨rfl, hb3⟩; obtain ⟨k0, k1, k2⟩ := HCS.out w3 hb3))
          rw [HSt.out]
          obtain ⟨T1, hT1⟩ : ∃ T1, T1 = X ++ Y := ⟨_, rfl⟩
          have hl1 : T1.length ≤ 7020 := by rw [hT1, List.length_append]; omega
          rw [← hT1] at HEnd2 ⊢
          have HB3 := hideg hb3
          have HBr := hideg hb
          clear c0 c1 p2 k0 k1 k2 HRow HSt HCS hb3 hb hT1 b1 hll
          obtain ⟨wv, hwv⟩ : ∃ wv, wv = wr := ⟨_, rfl⟩
          subst hwv
          go_wp2_with fail
          go_loopw [3, 6] (fun s i wr => ∃ j : Nat, j ≤ legs.length ∧ i = .int .i64 j ∧ s = .string ⟨(T1 ++ (legs.take j).flatMap lgText).toArray⟩ ∧ Below wv.heap.size wv wr) (fun _ i _ => legs.length - (intOf i).toNat)
          case atStart => exact ⟨0, Nat.zero_le _, rfl, by simp, HB3.out⟩
          case round =>
            clear HB3
            obtain ⟨j, hj, rfl, rfl, hb⟩ := hrel
            have hy1 := hb.size
            have hy2 : w.heap.size < wr.heap.size := by omega
            have hy3 : b < wr.heap.size := by omega
            have r2 : wr.cell? ⟨w.heap.size, 2, none⟩ = some (.slice (some ⟨b, off, none⟩) edges.length ec) := (hb.cell (p := ⟨w.heap.size, 2, none⟩) hz2).trans ((HBr.out.cell (p := ⟨w.heap.size, 2, none⟩) hz0).trans q2)
            have r3 : wr.cell? ⟨b, off + k * 3 + 2, none⟩ = some (.slice lo legs.length lcap) := (hb.cell (p := ⟨b, off + k * 3 + 2, none⟩) hbr2).trans HC2.out
            have hlj : (T1 ++ (legs.take j).flatMap lgText).length ≤ 7200 := by
              have h2 := HLl.out j
              rw [List.length_append]; omega
            have HLr := hideg (HLg.out.below (ptg HBr.out hb))
            by_cases hjl : j < legs.length
            · rcases HLr.out with h0 | ⟨b', off', rfl, hbr', hc'⟩
              · subst h0; simp at hjl
              obtain ⟨d0, d1, d2, d3⟩ := LgAt.get hjl hc'
              have hn := hideg (HNl.out legs[j] (List.getElem_mem hjl))
              have hll := HLe.out legs[j] (List.getElem_mem hjl)
              have HFj := hideg (fm_take lgText legs j hjl)
              have HSt : Hid (∀ U L, U = T1 ++ (legs.take j).flatMap lgText → L = lgText legs[j] → (⟨U.toArray⟩ ++ ⟨L.toArray⟩ : ByteArray) = ⟨(T1 ++ (legs.take (j + 1)).flatMap lgText).toArray⟩) := by
                intro U L e1 e2
                rw [mkapp, e1, e2, HFj.out, List.append_assoc]
              have hrow : ∀ o, Calls Tryd.prog 17 #[.string ⟨#[108, 101, 103]⟩, .slice (some ⟨wr.heap.size + 1, 0, none⟩) 4 4] ((wr.alloc o).alloc (.cells #[.int .i64 legs[j].1, .int .i64 legs[j].2.1, .int .i64 legs[j].2.2.1, .int .i64 legs[j].2.2.2] 3)) fun e w' => e = .returned (.string ⟨(lgText legs[j]).toArray⟩) ∧ Below wr.heap.size wr w' := fun o => (row_any ⟨#[108, 101, 103]⟩ (some ⟨wr.heap.size + 1, 0, none⟩) 4 [legs[j].1, legs[j].2.1, legs[j].2.2.1, legs[j].2.2.2] ((wr.alloc o).alloc (.cells #[.int .i64 legs[j].1, .int .i64 legs[j].2.1, .int .i64 legs[j].2.2.1, .int .i64 legs[j].2.2.2] 3)) (by rw [show wr.heap.size + 1 = (wr.alloc o).heap.size by simp]; exact zsAt_new _ _ _ _ rfl) ((((HTo.out.mono (by omega)).below (ptg HBr.out hb)).below ((gal wr o).mono (by omega))).below ((gal _ _).mono (by simp; omega))).tab (by decide) (by simp) hn.out).mono fun _ _ ⟨h1, h2⟩ => ⟨h1, ptg (ptg (gal wr o) (gal _ _)) h2⟩
              have HRow := hideg hrow
              generalize hU : T1 ++ (legs.take j).flatMap lgText = U at *
              generalize hV : lgText legs[j] = V at *
              have HSt2 := hideg (HSt.out U V rfl rfl)
              have b1 : ¬ (9223372036854775807 < U.length + V.length) := by omega
              clear hc' hrow HSt hU hV HFj
              go_wp2_with fail
              refine (HRow.out _).mono ?_
              rintro e w4 ⟨rfl, hb4⟩
              go_wp2
              go_roundw
              case rel => exact ⟨j + 1, by omega, by go_num, by rw [HSt2.out], ptg hb hb4⟩
              case measure => simp [intOf]; omega
            · have hje : j = legs.length := by omega
              subst hje
              have HE := hideg (ptg HBr.out hb)
              rw [List.take_length] at *
              go_wp2
              go_roundw
              case rel => exact ⟨k + 1, by omega, by go_num, by rw [HEnd2.out], HE.out⟩
              case measure => simp [intOf]; omega
        · have hke : k = edges.length := by omega
          subst hke
          rw [List.take_length] at *
          go_wp2
          go_ret
          exact ⟨by rw [gText, HT0.out]; rfl, ptg HBo.out hb⟩

end Go.Proofs.YthgelfnflafoiaaDoor
