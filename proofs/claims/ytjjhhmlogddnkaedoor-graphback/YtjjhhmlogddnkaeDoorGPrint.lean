/-
  What Print of the program's graphs answers.
-/
import Derived.Test.YtjjhhmlogddnkaeDoorGLine
import Derived.Test.YtjjhhmlogddnkaeDoorGCheck
namespace Go.Proofs.YtjjhhmlogddnkaeDoor
open Go.RowKit

/-- what Print tells -/
def gOut (g : Gr) : List UInt8 := if gChk g = 0 then gText g else []

theorem fm_take {α : Type} (f : α → List UInt8) (l : List α) (k : Nat) (hk : k < l.length) : (l.take (k + 1)).flatMap f = (l.take k).flatMap f ++ f l[k] := by
  rw [List.take_succ_eq_append_getElem hk, List.flatMap_append, List.flatMap_singleton]
theorem fm_len {α : Type} (f : α → List UInt8) (c : Nat) (l : List α) (k : Nat) (h : ∀ x ∈ l, (f x).length ≤ c) : ((l.take k).flatMap f).length ≤ c * l.length := by
  have := flat_len f c (l.take k) fun x hx => h x (List.mem_of_mem_take hx)
  have hl : (l.take k).length ≤ l.length := by simp; omega
  have := Nat.mul_le_mul_left c hl
  omega
theorem line_len {w : List UInt8} {ns : List Int} (h : ∀ n ∈ ns, 0 ≤ n ∧ n ≤ 9999) : (line w ns).length ≤ w.length + 5 * ns.length + 1 := by
  have := numLen h ns.length
  rw [List.take_length] at this
  simp only [line, List.length_append, List.length_singleton]
  omega
/-- what is needed of a right graph here -/
structure Small (g : Gr) : Prop where
  hor : 0 ≤ g.hor ∧ g.hor ≤ 9999
  lvs : g.lives.length ≤ 12
  eds : g.edges.length ≤ 30
  life : ∀ p ∈ g.lives, ∀ n ∈ [p.1, p.2], 0 ≤ n ∧ n ≤ 9999
  ends : ∀ e ∈ g.edges, (∀ n ∈ [e.1, e.2.1], 0 ≤ n ∧ n ≤ 9999) ∧ e.2.2.length ≤ 6
  legs : ∀ e ∈ g.edges, ∀ l ∈ e.2.2, ∀ n ∈ [l.1, l.2.1, l.2.2.1, l.2.2.2], 0 ≤ n ∧ n ≤ 9999
theorem Right.small {g : Gr} (R : Right g) : Small g := by
  have hh := R.hor
  have hl := R.lvs
  refine ⟨by omega, R.lvs, R.eds, fun p hp n hn => ?_, fun e he => ⟨fun n hn => ?_, (R.ends e he).2.2⟩, fun e he l hl n hn => ?_⟩
  · have := R.life p hp
    simp at hn; rcases hn with rfl | rfl <;> omega
  · have := R.ends e he
    simp at hn; rcases hn with rfl | rfl <;> omega
  · have hf := (fitB_iff l g.hor).1 (R.legs e he l hl)
    simp at hn; rcases hn with rfl | rfl | rfl | rfl <;> omega
theorem lv_len {g : Gr} (S : Small g) : ∀ p ∈ g.lives, (lvText p).length ≤ 17 := fun p hp => by
  have := line_len (w := wVertex) (S.life p hp)
  simpa [lvText, wVertex] using this
theorem lg_len {g : Gr} (S : Small g) {e : Ed} (he : e ∈ g.edges) : ∀ l ∈ e.2.2, (lgText l).length ≤ 24 := fun l hl => by
  have := line_len (w := wLeg) (S.legs e he l hl)
  simpa [lgText, wLeg] using this
theorem ed_len {g : Gr} (S : Small g) : ∀ e ∈ g.edges, (edText e).length ≤ 200 := fun e he => by
  have h1 := line_len (w := wEdge) (S.ends e he).1
  have h2 := flat_len lgText 24 e.2.2 (lg_len S he)
  have h3 := (S.ends e he).2
  have h4 := Nat.mul_le_mul_left 24 h3
  have h5 : (line wEdge [e.1, e.2.1]).length ≤ 15 := by simpa [wEdge] using h1
  rw [edText, List.length_append]
  omega

set_option maxHeartbeats 8000000 in
set_option maxRecDepth 100000 in
theorem Print_any (g : Gr) (la ea : Option Addr) (lc ec : Nat) (w : World) (hG : GAt w la ea g) (hT : Tab w) :
    Calls Tryd.prog 4 #[.agg #[.int .i64 g.hor, .slice la g.lives.length lc, .slice ea g.edges.length ec]] w fun r w' => r = .returned (.tuple #[.string ⟨(gOut g).toArray⟩, .int .i64 (gChk g)]) ∧ Below w.heap.size w w' := by
  have HB := hideg (gal w)
  have hC := fun o => gCheck_any g la ea lc ec (w.alloc o) (hG.below (gal w o))
  by_cases h0 : gChk g = 0
  · have HO : Hid (gOut g = gText g) := if_pos h0
    have S := (gChk_right h0).small
    rw [h0] at hC ⊢
    clear h0
    obtain ⟨h, lives, edges⟩ := g
    simp only at hC ⊢
    have HS := hideg S
    have hh := S.hor
    simp only at hh
    have hlv : lives.length ≤ 12 := S.lvs
    have hed : edges.length ≤ 30 := S.eds
    have HG := hideg hG
    have HT := hideg hT
    clear hG hT S
    go_enter Tryd.func4, Tryd.ntmps4
    go_wp2_with fail
    refine (hC _).mono ?_
    rintro e w1 ⟨rfl, hb1⟩
    have HB1 := hideg (ptg (gal w _) hb1)
    have hz1 : w.heap.size < w1.heap.size := by have := hb1.size; simp at this; omega
    have q0 : w1.cell? ⟨w.heap.size, 0, none⟩ = some (.int .i64 h) := by rw [hb1.cell (p := ⟨w.heap.size, 0, none⟩) (by simp)]; simp
    have q1 : w1.cell? ⟨w.heap.size, 1, none⟩ = some (.slice la lives.length lc) := by rw [hb1.cell (p := ⟨w.heap.size, 1, none⟩) (by simp)]; simp
    have q2 : w1.cell? ⟨w.heap.size, 2, none⟩ = some (.slice ea edges.length ec) := by rw [hb1.cell (p := ⟨w.heap.size, 2, none⟩) (by simp)]; simp
    have HG1 := hideg (HG.out.below HB1.out)
    have HT1 := hideg (HT.out.low.below HB1.out)
    clear hC hb1 HG HT
    have HL0 := hideg (show (line wTime [h]).length ≤ 20 by have := line_len (w := wTime) (ns := [h]) (by simpa using hh); simp [wTime] at this ⊢; omega)
    go_wp2_with fail
    have hbd0 := hideg (bdAt_fresh w1)
    have hbx := hideg (gal w1 (.cells #[.pointer none, .slice none 0 0] 39))
    refine (writeLine_any w1.heap.size w1.heap.size [] ⟨#[116, 105, 109, 101]⟩ (w1.heap.size + 1) 1 (0, 0) [h] _ (BdAt.below hbd0.out (gal _ _)) ((HT1.out.mono (by omega)).below (hbx.out.alloc (by simp) _)) (by rw [show w1.heap.size + 1 = (w1.alloc (.cells #[.pointer none, .slice none 0 0] 39)).heap.size by simp]; exact heap_alloc_new _ _) (by omega) (by simp) (by decide) (by simp) (by simpa using hh) (by simp; omega)).mono ?_
    rintro e w2 ⟨rfl, hd2, hw2⟩
    have HD2 := hideg hd2
    have HB2 : Hid (Below w1.heap.size w1 w2) := (hbx.out.alloc (by simp) _).trans hw2.1
    clear hd2 hw2 hbd0 hbx
    have hz2 : w1.heap.size < w2.heap.size := HD2.out.lt
    have hz3 : w.heap.size < w2.heap.size := by omega
    have p0 : w2.cell? ⟨w.heap.size, 1, none⟩ = some (.slice la lives.length lc) := by rw [HB2.out.cell (p := ⟨w.heap.size, 1, none⟩) hz1, q1]
    clear q0
    go_wp2_with fail
    go_loopw [24] (fun i wr => ∃ k : Nat, k ≤ lives.length ∧ i = .int .i64 k ∧ BdAt w1.heap.size w1.heap.size (line wTime [h] ++ (lives.take k).flatMap lvText) wr ∧ Below w1.heap.size w1 wr) (fun i _ => lives.length - (intOf i).toNat)
    case atStart => exact ⟨0, Nat.zero_le _, rfl, by simpa [wTime] using HD2.out, HB2.out⟩
    case round =>
      obtain ⟨k, hk, rfl, hd, hb⟩ := hrel
      have HD := hideg hd
      have HBr := hideg hb
      have hzr : w1.heap.size < wr.heap.size := hd.lt
      have hzw : w.heap.size < wr.heap.size := by omega
      have HLn : Hid ((line wTime [h] ++ (lives.take k).flatMap lvText).length ≤ 1000) := by
        have h1 := HL0.out
        have h2 := fm_len lvText 17 lives k (lv_len HS.out)
        show _ ≤ _
        rw [List.length_append]; omega
      have HTr := hideg ((HT1.out.mono (B' := w1.heap.size) (by omega)).below hb)
      clear hd hb p0 HD2 HB2
      by_cases hlt : k < lives.length
      · have hlv2 := HG1.out.lv.below HBr.out
        rcases hlv2 with h0 | ⟨b, off, rfl, hbr, hc⟩
        · simp only at h0; subst h0; simp at hlt
        obtain ⟨c0, c1⟩ := IvAt.get hlt hc
        have hn := hideg (HS.out.life lives[k] (List.getElem_mem hlt))
        have HF := hideg (fm_take lvText lives k hlt)
        clear hc
        go_wp2_with fail
        refine (writeLine_any w1.heap.size w1.heap.size _ ⟨#[118, 101, 114, 116, 101, 120]⟩ (wr.heap.size + 1) 2 (0, 0) [lives[k].1, lives[k].2] _ (BdAt.below (BdAt.below HD.out (gal _ _)) (gal _ _)) ((HTr.out.below ((gal _ _).mono (by omega))).below ((gal _ _).mono (by simp; omega))) (by rw [show wr.heap.size + 1 = (wr.alloc (.cells #[.int .i64 lives[k].1, .int .i64 lives[k].2] 30)).heap.size by simp]; exact heap_alloc_new _ _) (by omega) (by have := HLn.out; omega) (by decide) (by simp) hn.out (by simp; omega)).mono ?_
        rintro e w3 ⟨rfl, hd3, hw3⟩
        have HE := hideg (⟨by rw [HF.out]; simpa [lvText, wVertex] using hd3, (HBr.out.alloc (by omega) _ |>.alloc (by simp; omega) _).trans hw3.1⟩ : BdAt w1.heap.size w1.heap.size (line wTime [h] ++ (lives.take (k + 1)).flatMap lvText) w3 ∧ Below w1.heap.size w1 w3)
        clear hd3 hw3
        go_wp2
        go_roundw
        case rel => exact ⟨k + 1, by omega, by go_num, HE.out⟩
        case measure => simp [intOf]; omega
      · have hke : k = lives.length := by omega
        subst hke
        rw [List.take_length] at HD HLn
        have p2 : wr.cell? ⟨w.heap.size, 2, none⟩ = some (.slice ea edges.length ec) := by rw [HBr.out.cell (p := ⟨w.heap.size, 2, none⟩) hz1, q2]
        obtain ⟨T0, hT0⟩ : ∃ T0, T0 = line wTime [h] ++ lives.flatMap lvText := ⟨_, rfl⟩
        have HT0 := hideg hT0
        rw [← hT0] at HD HLn
        clear hT0
        obtain ⟨wo, hwo⟩ : ∃ wo, wo = wr := ⟨_, rfl⟩
        subst hwo
        go_wp2_with fail
        go_loopw [38] (fun i wr => ∃ k : Nat, k ≤ edges.length ∧ i = .int .i64 k ∧ BdAt w1.heap.size w1.heap.size (T0 ++ (edges.take k).flatMap edText) wr ∧ Below w1.heap.size w1 wr) (fun i _ => edges.length - (intOf i).toNat)
        case atStart => exact ⟨0, Nat.zero_le _, rfl, by simpa using HD.out, HBr.out⟩
        case round =>
          clear HD HBr HTr p2
          obtain ⟨k, hk, rfl, hd, hb⟩ := hrel
          have HD := hideg hd
          have HBr := hideg hb
          have hzr : w1.heap.size < wr.heap.size := hd.lt
          have hzw : w.heap.size < wr.heap.size := by omega
          have HLe : Hid ((T0 ++ (edges.take k).flatMap edText).length ≤ 7000) := by
            have h1 := HLn.out
            have h2 := fm_len edText 200 edges k (ed_len HS.out)
            show _ ≤ _
            rw [List.length_append]; omega
          have HTr := hideg ((HT1.out.mono (B' := w1.heap.size) (by omega)).below hb)
          clear hd hb
          by_cases hlt : k < edges.length
          · rcases HG1.out.ed with h0 | ⟨b, off, rfl, hbr, hc⟩
            · simp only at h0; subst h0; simp at hlt
            obtain ⟨c0', c1', lo, lcap, c2', hL, _, _⟩ := hc k hlt
            have c0 := (HBr.out.cell (p := ⟨b, off + k * 3, none⟩) hbr).trans c0'
            have c1 := (HBr.out.cell (p := ⟨b, off + k * 3 + 1, none⟩) hbr).trans c1'
            have c2 := (HBr.out.cell (p := ⟨b, off + k * 3 + 2, none⟩) hbr).trans c2'
            have hbr2 : b < wr.heap.size := by omega
            clear c0' c1' c2'
            have hm := List.getElem_mem hlt
            have HN := hideg (HS.out.ends edges[k] hm)
            have HNl := hideg (HS.out.legs edges[k] hm)
            have HLl := hideg (fm_len lgText 24 edges[k].2.2 · (lg_len HS.out hm))
            have HF := hideg (fm_take edText edges k hlt)
            have HLg := hideg hL
            clear hc hL hm
            simp only at HN HNl HLl HF HLg c0 c1 c2
            generalize edges[k] = ed at *
            obtain ⟨A, B, legs⟩ := ed
            simp only at HN HNl HLl HF HLg c0 c1 c2
            have h6 : legs.length ≤ 6 := HN.out.2
            go_wp2_with fail
            refine (writeLine_any w1.heap.size w1.heap.size _ ⟨#[101, 100, 103, 101]⟩ (wr.heap.size + 1) 2 (0, 0) [A, B] _ (BdAt.below (BdAt.below HD.out (gal _ _)) (gal _ _)) ((HTr.out.below ((gal _ _).mono (by omega))).below ((gal _ _).mono (by simp; omega))) (by rw [show wr.heap.size + 1 = (wr.alloc (.cells #[.int .i64 A, .int .i64 B, .slice lo legs.length lcap] 43)).heap.size by simp]; exact heap_alloc_new _ _) (by omega) (by have := HLe.out; omega) (by decide) (by simp) HN.out.1 (by simp; omega)).mono ?_
            rintro e w3 ⟨rfl, hd3, hw3⟩
            have HD3 : Hid (BdAt w1.heap.size w1.heap.size (T0 ++ (edges.take k).flatMap edText ++ line wEdge [A, B]) w3) := hd3
            have HB3 := hideg ((HBr.out.alloc (by omega) _ |>.alloc (by simp; omega) _).trans hw3.1)
            have hbox := hw3.cells (k := wr.heap.size) (cs := #[.int .i64 A, .int .i64 B, .slice lo legs.length lcap]) (t := 43) (fz := (0, 0)) (((gal _ _).block _ (by simp)).trans (heap_alloc_new _ _)) (by omega) (by decide)
            have e2 : w3.cell? ⟨wr.heap.size, 2, none⟩ = some (.slice lo legs.length lcap) := by rw [Lib.cell_of_heap hbox]; rfl
            have hLT : Hid ((T0 ++ (edges.take k).flatMap edText ++ line wEdge [A, B]).length ≤ 7020) := by
              have h1 := HLe.out
              have h2 := line_len (w := wEdge) HN.out.1
              show _ ≤ _
              simp [wEdge] at h1 h2 ⊢; omega
            obtain ⟨T1, hT1⟩ : ∃ T1, T1 = T0 ++ (edges.take k).flatMap edText ++ line wEdge [A, B] := ⟨_, rfl⟩
            have HT1' := hideg hT1
            rw [← hT1] at HD3 hLT
            clear hd3 hw3 hbox c0 c1 c2 hT1
            obtain ⟨wv, hwv⟩ : ∃ wv, wv = wr := ⟨_, rfl⟩
            subst hwv
            go_wp2_with fail
            go_loopw [51] (fun i wr => ∃ j : Nat, j ≤ legs.length ∧ i = .int .i64 j ∧ BdAt w1.heap.size w1.heap.size (T1 ++ (legs.take j).flatMap lgText) wr ∧ Below w1.heap.size w1 wr) (fun i _ => legs.length - (intOf i).toNat)
            case atStart => exact ⟨0, Nat.zero_le _, rfl, by simpa using HD3.out, HB3.out⟩
            case round =>
              clear HD HBr HTr e2 HD3 HB3
              obtain ⟨j, hj, rfl, hd, hb⟩ := hrel
              have HD := hideg hd
              have HBr := hideg hb
              have hzr : w1.heap.size < wr.heap.size := hd.lt
              have HTr := hideg ((HT1.out.mono (B' := w1.heap.size) (by omega)).below hb)
              have HLj : Hid ((T1 ++ (legs.take j).flatMap lgText).length ≤ 7200) := by
                have h1 := hLT.out
                have h2 := HLl.out j
                show _ ≤ _
                rw [List.length_append]; omega
              clear hd hb
              by_cases hjl : j < legs.length
              · rcases HLg.out.below HBr.out with h0 | ⟨b', off', rfl, hbr', hc'⟩
                · subst h0; simp at hjl
                obtain ⟨d0, d1, d2, d3⟩ := LgAt.get hjl hc'
                have hn := hideg (HNl.out legs[j] (List.getElem_mem hjl))
                have HFj := hideg (fm_take lgText legs j hjl)
                clear hc'
                go_wp2_with fail
                refine (writeLine_any w1.heap.size w1.heap.size _ ⟨#[108, 101, 103]⟩ (wr.heap.size + 1) 4 (0, 0) [legs[j].1, legs[j].2.1, legs[j].2.2.1, legs[j].2.2.2] _ (BdAt.below (BdAt.below HD.out (gal _ _)) (gal _ _)) ((HTr.out.below ((gal _ _).mono (by omega))).below ((gal _ _).mono (by simp; omega))) (by rw [show wr.heap.size + 1 = (wr.alloc (.cells #[.int .i64 legs[j].1, .int .i64 legs[j].2.1, .int .i64 legs[j].2.2.1, .int .i64 legs[j].2.2.2] 45)).heap.size by simp]; exact heap_alloc_new _ _) (by omega) (by have := HLj.out; omega) (by decide) (by simp) hn.out (by simp; omega)).mono ?_
                rintro e w4 ⟨rfl, hd4, hw4⟩
                have HE := hideg (⟨by rw [HFj.out]; simpa [lgText, wLeg] using hd4, (HBr.out.alloc (by omega) _ |>.alloc (by simp; omega) _).trans hw4.1⟩ : BdAt w1.heap.size w1.heap.size (T1 ++ (legs.take (j + 1)).flatMap lgText) w4 ∧ Below w1.heap.size w1 w4)
                clear hd4 hw4
                go_wp2
                go_roundw
                case rel => exact ⟨j + 1, by omega, by go_num, HE.out⟩
                case measure => simp [intOf]; omega
              · have hje : j = legs.length := by omega
                subst hje
                rw [List.take_length] at HD
                have HE : Hid (BdAt w1.heap.size w1.heap.size (T0 ++ (edges.take (k + 1)).flatMap edText) wr) := by
                  have := HD.out
                  rw [HT1'.out] at this
                  show BdAt _ _ _ _
                  rw [HF.out, edText]
                  simpa using this
                go_wp2
                go_roundw
                case rel => exact ⟨k + 1, by omega, by go_num, HE.out, HBr.out⟩
                case measure => simp [intOf]; omega
          · have hke : k = edges.length := by omega
            subst hke
            rw [List.take_length] at HD
            go_wp2_with fail
            refine (BString_any w1.heap.size w1.heap.size _ _ HD.out (by omega)).mono ?_
            rintro e w3 ⟨rfl, hb3⟩
            go_wp2
            go_ret2
            exact ⟨by rw [HO.out, gText, HT0.out]; rfl, HB1.out.trans ((HBr.out.trans hb3).mono (by omega))⟩
  · have HO : Hid (gOut g = []) := if_neg h0
    have hne : (gChk g != 0) = true := by simpa using h0
    generalize gChk g = ev at *
    clear hG hT
    go_enter Tryd.func4, Tryd.ntmps4
    go_wp2_with (go_at_call 7; refine (hC _).mono ?_; rintro e w1 ⟨rfl, hb1⟩)
    go_ret2
    exact ⟨by rw [HO.out]; rfl, ptg (HB.out _) hb1⟩

end Go.Proofs.YtjjhhmlogddnkaeDoor
