/-
  What Encode of the program answers.
-/
import Derived.Test.YteibdmfcclkjpahPkC
import Derived.Test.YteibdmfcclkjpahGCheck
namespace Go.Proofs.Yteibdmfcclkjpah
open Go.RowKit

/-- the bytes of numbers, in memory of the call's own -/
def RowIs (B : Nat) (W : World) (o : Value) (L : List Int) : Prop := W.ownsRow B 5 1 o (codeL L).length ((codeL L).map bv)
theorem RowIs.form {B : Nat} {W : World} {o : Value} {L : List Int} (h : RowIs B W o L) : ∃ a n c, o = .slice a n c := by
  obtain ⟨a, c, e, _⟩ := row_form h
  exact ⟨a, _, c, e⟩
theorem codeL_app (a b : List Int) : codeL (a ++ b) = codeL a ++ codeL b := by unfold codeL; rw [List.flatMap_append]

theorem step_nums {B : Nat} {wA wr wb : World} {L ns : List Int} {o : Value} {NB : Nat} (hB : B ≤ wA.heap.size) (hb : Below B wA wr) (hr : RowIs B wr o L) (hbw : Below wr.heap.size wr wb) (hns : wb.heap[NB]? = some (.cells (ns.map (Value.int .i64)).toArray 3 (0, 0))) (h4 : ns.length ≤ 4) (hsm : ∀ x ∈ ns, 0 ≤ x ∧ x < 65536) (hL : L.length ≤ 40000) :
    Calls Try.prog 33 #[o, .slice (some ⟨NB, 0, none⟩) ns.length ns.length] wb fun r w' => ∃ a n c, r = .returned (.slice a n c) ∧ RowIs B w' (.slice a n c) (L ++ ns) ∧ Below B wA w' ∧ (∀ (b : Nat) (cs : Array Value) (T : TypeId), T ≠ 5 → wb.heap[b]? = some (.cells cs T (0, 0)) → w'.heap[b]? = some (.cells cs T (0, 0))) := by
  have hrb : wb.ownsRow B 5 1 o (codeL L).length ((codeL L).map bv) := ownsRow_below hr hbw
  have hBr : B ≤ wr.heap.size := Nat.le_trans hB hb.size
  have hl := codeL_len L
  refine (wNums_any B (codeL L) o (codeL L).length ns NB wb (Nat.le_trans hBr hbw.size) rfl (by omega) hrb hns h4 hsm).mono ?_
  rintro r w' ⟨v', rfl, h1, h2⟩
  rw [← codeL_app] at h1
  have h1' : RowIs B w' v' (L ++ ns) := h1
  obtain ⟨a, n, c, rfl⟩ := h1'.form
  refine ⟨a, n, c, rfl, h1, (hb.trans (hbw.mono hBr)).grown h2 (Nat.le_trans hBr hbw.size) (fun j hj => (hrb.lt j hj).1), fun b cs T hT hh => ?_⟩
  rw [h2.block b (heap_ltg hh) (fun e => row_ne hrb hh hT e.symm)]
  exact hh

theorem small_hd {g : Gr} (R : Right g) : ∀ x ∈ numHd g, 0 ≤ x ∧ x < 65536 := fun x hx => nums_small R x (by unfold nums; simp [hx])
theorem small_lv {g : Gr} (R : Right g) {p : Int × Int} (hp : p ∈ g.lives) : ∀ x ∈ numLv p, 0 ≤ x ∧ x < 65536 := fun x hx => nums_small R x (List.mem_append_right _ (List.mem_append_left _ (List.mem_flatMap.2 ⟨p, hp, hx⟩)))
theorem small_ed {g : Gr} (R : Right g) {e : Ed} (he : e ∈ g.edges) : ∀ x ∈ numEd e, 0 ≤ x ∧ x < 65536 := fun x hx => nums_small R x (List.mem_append_right _ (List.mem_append_right _ (List.mem_flatMap.2 ⟨e, he, hx⟩)))
theorem small_e3 {g : Gr} (R : Right g) {e : Ed} (he : e ∈ g.edges) : ∀ x ∈ [e.1, e.2.1, (e.2.2.length : Int)], 0 ≤ x ∧ x < 65536 := fun x hx => small_ed R he x (List.mem_append_left _ hx)
theorem small_lg {g : Gr} (R : Right g) {e : Ed} (he : e ∈ g.edges) {l : Lg} (hl : l ∈ e.2.2) : ∀ x ∈ numLg l, 0 ≤ x ∧ x < 65536 := fun x hx => small_ed R he x (List.mem_append_right _ (List.mem_flatMap.2 ⟨l, hl, hx⟩))

set_option maxRecDepth 100000 in
set_option maxHeartbeats 1000000 in
theorem pEnc_ok (g : Gr) (la ea : Option Addr) (lc ec : Nat) (w : World) (hG : GAt w la ea g) (hE : gChk g = 0) :
    Calls Try.prog 6 #[.agg #[.int .i64 g.hor, .slice la g.lives.length lc, .slice ea g.edges.length ec]] w fun r w' => r = .returned (.tuple #[.string ⟨(coded g).toArray⟩, .int .i64 0]) ∧ Below w.heap.size w w' := by
  have hR := gChk_right hE
  have hl12 := hR.lvs
  have he30 := hR.eds
  obtain ⟨wA, hwA⟩ : ∃ x, x = w.alloc (.cells #[.int .i64 g.hor, .slice la g.lives.length lc, .slice ea g.edges.length ec] 25) := ⟨_, rfl⟩
  have hsA : wA.heap.size = w.heap.size + 1 := by rw [hwA]; simp
  have hbA : Below w.heap.size w wA := by rw [hwA]; exact gal w _
  obtain ⟨B, hB⟩ : ∃ B, B = wA.heap.size := ⟨_, rfl⟩
  have HGx : Hid (∀ W, Below B wA W → W.cell? ⟨w.heap.size, 0, none⟩ = some (.int .i64 g.hor) ∧ W.cell? ⟨w.heap.size, 1, none⟩ = some (.slice la g.lives.length lc) ∧ W.cell? ⟨w.heap.size, 2, none⟩ = some (.slice ea g.edges.length ec) ∧ GAt W la ea g ∧ Below w.heap.size w W) := by
    intro W hb
    have c : ∀ j x, #[Value.int .i64 g.hor, .slice la g.lives.length lc, .slice ea g.edges.length ec][j]? = some x → W.cell? ⟨w.heap.size, j, none⟩ = some x := by
      intro j x hx
      rw [hb.cell (p := ⟨w.heap.size, j, none⟩) (by simp only; omega), hwA]
      exact new_cellP rfl hx
    have hW : Below w.heap.size w W := hbA.trans (hb.mono (by omega))
    exact ⟨c 0 _ rfl, c 1 _ rfl, c 2 _ rfl, hG.below hW, hW⟩
  have h0 := gCheck_any g la ea lc ec wA (hG.below hbA)
  rw [hE] at h0
  have HWA := hideg hwA.symm
  have HBW : Hid (B ≤ wA.heap.size) := by show _ ≤ _; omega
  have HBe := hideg hB
  have HRt := hideg hR
  have HEd : Hid (∀ i (h : i < g.edges.length), ∃ eb eof lo lcap, ea = some ⟨eb, eof, none⟩ ∧ eb < w.heap.size ∧ ∀ W, Below w.heap.size w W → W.cell? ⟨eb, eof + i * 3, none⟩ = some (.int .i64 g.edges[i].1) ∧ W.cell? ⟨eb, eof + i * 3 + 1, none⟩ = some (.int .i64 g.edges[i].2.1) ∧ W.cell? ⟨eb, eof + i * 3 + 2, none⟩ = some (.slice lo g.edges[i].2.2.length lcap) ∧ LgAt W lo g.edges[i].2.2) := by
    intro i h
    rcases hG.ed with h0 | ⟨eb, eof, rfl, heb, hce⟩
    · rw [h0] at h; simp at h
    · obtain ⟨c0, c1, lo, lcap, c2, hL, _, _⟩ := hce i h
      exact ⟨eb, eof, lo, lcap, rfl, heb, fun W hb => ⟨(hb.cell (p := ⟨eb, eof + i * 3, none⟩) heb).trans c0, (hb.cell (p := ⟨eb, eof + i * 3 + 1, none⟩) heb).trans c1, (hb.cell (p := ⟨eb, eof + i * 3 + 2, none⟩) heb).trans c2, hL.below hb⟩⟩
  have HCd : Hid (coded g = codeL (nums g) ++ sum4 (sumL (codeL (nums g))) 4) := rfl
  generalize coded g = CD at *
  clear hG hE hR hwA hbA hsA hB
  go_enter Try.func6, Try.ntmps6
  go_wp2_with fail
  rw [HWA.out]
  refine h0.mono ?_
  rintro r w1 ⟨rfl, hb1⟩
  rw [← HBe.out] at hb1
  obtain ⟨q0, q1, q2, _⟩ := HGx.out w1 hb1
  obtain ⟨wb, hwb⟩ : ∃ x, x = w1.alloc (.cells #[.int .i64 g.hor, .int .i64 (g.lives.length : Int), .int .i64 (g.edges.length : Int)] 3) := ⟨_, rfl⟩
  have h1 : Calls Try.prog 33 #[.slice none 0 0, .slice (some ⟨w1.heap.size, 0, none⟩) 3 3] wb _ := step_nums (L := []) (ns := numHd g) (NB := w1.heap.size) HBW.out hb1 (World.ownsRow_nil _ _ _ _) (by rw [hwb]; exact gal w1 _) (by rw [hwb]; exact heap_alloc_new w1 _) (by show 3 ≤ 4; omega) (small_hd HRt.out) (by simp)
  rw [hwb] at h1
  clear h0 HWA hb1 hwb
  go_wp2_with fail
  refine h1.mono ?_
  rintro r w2 ⟨a2, n2, c2, rfl, hr2, hb2, _⟩
  have HR2 : Hid (RowIs B w2 (.slice a2 n2 c2) (numsA g 0)) := by show RowIs _ _ _ _; unfold numsA; simpa using hr2
  have HB2 := hideg hb2
  clear h1 q0 q1 q2 hr2
  obtain ⟨q0, q1, q2, _⟩ := HGx.out w2 hb2
  clear hb2
  go_wp2_with fail
  clear q0 q1 q2
  go_loopw [5, 30] (fun o i wr => ∃ k : Nat, k ≤ g.lives.length ∧ i = .int .i64 (k : Int) ∧ RowIs B wr o (numsA g k) ∧ Below B wA wr) (fun _ i _ => g.lives.length - (intOf i).toNat)
  case atStart => exact ⟨0, Nat.zero_le _, rfl, HR2.out, HB2.out⟩
  case round =>
    clear HR2 HB2
    obtain ⟨k, hk, rfl, hN, hb⟩ := hrel
    obtain ⟨q0, q1, q2, hGA, hbw⟩ := HGx.out wr hb
    have hnl := numsA_len g k
    obtain ⟨vo, vn, vc, rfl⟩ := hN.form
    by_cases hlt : k < g.lives.length
    · have hki : (k : Int) < (g.lives.length : Int) := by omega
      have hkw : IntKind.i64.wrap ((k : Int) + 1) = (k : Int) + 1 := wrap_q _ (by omega) (by omega)
      have HS := hideg (numsA_succ hlt)
      have hsm := small_lv HRt.out (List.getElem_mem hlt)
      rcases hGA.lv with h0 | ⟨lb, lof, rfl, hlb, hc⟩
      · rw [h0] at hlt; simp at hlt
      obtain ⟨c0, c1⟩ := IvAt.get hlt hc
      generalize g.lives[k] = pp at *
      obtain ⟨pf, pt⟩ := pp
      simp only at c0 c1 HS
      obtain ⟨wx, hwx⟩ : ∃ x, x = wr.alloc (.cells #[.int .i64 pf, .int .i64 pt] 44) := ⟨_, rfl⟩
      obtain ⟨wb, hwb⟩ : ∃ x, x = wx.alloc (.cells #[.int .i64 pf, .int .i64 pt] 3) := ⟨_, rfl⟩
      have hsx : wx.heap.size = wr.heap.size + 1 := by rw [hwx]; simp
      have bx : Below wr.heap.size wr wx := by rw [hwx]; exact gal wr _
      have bb : Below wx.heap.size wx wb := by rw [hwb]; exact gal wx _
      have h1 : Calls Try.prog 33 #[.slice vo vn vc, .slice (some ⟨wr.heap.size + 1, 0, none⟩) 2 2] wb _ := step_nums (L := numsA g k) (ns := [pf, pt]) (NB := wr.heap.size + 1) HBW.out hb hN (bx.trans (bb.mono bx.size)) (by rw [hwb, ← hsx]; exact heap_alloc_new wx _) (by simp) hsm (by omega)
      rw [hwb, hwx] at h1
      clear hwx hwb hsx bx bb hN hb hGA hc hbw hnl hsm
      go_wp2_with fail
      refine h1.mono ?_
      rintro r w3 ⟨a3, n3, c3, rfl, hr3, hb3, _⟩
      rw [← HS.out] at hr3
      have HR3 := hideg hr3
      have HB3 := hideg hb3
      clear h1 q0 q1 q2 hr3 hb3 c0 c1
      go_wp2
      go_roundw
      case rel => exact ⟨k + 1, by omega, by go_num, HR3.out, HB3.out⟩
      case measure => simp [intOf]; omega
    · have hkn : ¬ ((k : Int) < (g.lives.length : Int)) := by omega
      obtain rfl : k = g.lives.length := by omega
      rw [numsA_all] at hN
      have HN := hideg hN
      have HB := hideg hb
      clear hN hb hGA hbw hlt q0 q1 hnl
      obtain ⟨wo, hwo⟩ : ∃ x, x = wr := ⟨_, rfl⟩
      subst hwo
      go_wp2_with fail
      clear q2
      go_loopw [5, 45] (fun o i wr => ∃ k : Nat, k ≤ g.edges.length ∧ i = .int .i64 (k : Int) ∧ RowIs B wr o (numsB g k) ∧ Below B wA wr) (fun _ i _ => g.edges.length - (intOf i).toNat)
      case atStart => exact ⟨0, Nat.zero_le _, rfl, HN.out, HB.out⟩
      case round =>
        clear HN HB
        obtain ⟨i, hi, rfl, hN, hb⟩ := hrel
        obtain ⟨q0, q1, q2, hGA, hbw⟩ := HGx.out wr hb
        have hnl := numsB_len HRt.out i
        obtain ⟨vo, vn, vc, rfl⟩ := hN.form
        by_cases hlt2 : i < g.edges.length
        · have hii2 : (i : Int) < (g.edges.length : Int) := by omega
          have hiw : IntKind.i64.wrap ((i : Int) + 1) = (i : Int) + 1 := wrap_q _ (by omega) (by omega)
          obtain ⟨eb, eof, lo, lcap, rfl, heb, hed⟩ := HEd.out i hlt2
          obtain ⟨c0, c1, c2, _⟩ := hed wr hbw
          have hel := (HRt.out.ends _ (List.getElem_mem hlt2)).2.2
          have HLg : Hid (∀ W, Below B wA W → LgAt W lo g.edges[i].2.2) := fun W hW => (hed W (HGx.out W hW).2.2.2.2).2.2.2
          have HC0 := hideg (numsC_zero g i g.edges[i])
          have HCs := hideg (fun j (hj : j < g.edges[i].2.2.length) => numsC_succ (g := g) (k := i) (e := g.edges[i]) (j := j) hj)
          have HCa := hideg (numsC_all hlt2)
          have HCl := hideg (fun j => numsC_len HRt.out i j g.edges[i] hel)
          have hsm := small_e3 HRt.out (List.getElem_mem hlt2)
          have HSl := hideg (fun (l : Lg) (hl : l ∈ g.edges[i].2.2) => small_lg HRt.out (List.getElem_mem hlt2) hl)
          generalize g.edges[i] = e at *
          obtain ⟨A, C, legs⟩ := e
          simp only at c0 c1 c2 hel HLg HC0 HCs HCa hsm HSl
          obtain ⟨wx, hwx⟩ : ∃ x, x = wr.alloc (.cells #[.int .i64 A, .int .i64 C, .slice lo legs.length lcap] 68) := ⟨_, rfl⟩
          obtain ⟨wb, hwb⟩ : ∃ x, x = wx.alloc (.cells #[.int .i64 A, .int .i64 C, .int .i64 (legs.length : Int)] 3) := ⟨_, rfl⟩
          have hsx : wx.heap.size = wr.heap.size + 1 := by rw [hwx]; simp
          have bx : Below wr.heap.size wr wx := by rw [hwx]; exact gal wr _
          have bb : Below wx.heap.size wx wb := by rw [hwb]; exact gal wx _
          obtain ⟨XB, hXB⟩ : ∃ x, x = wr.heap.size := ⟨_, rfl⟩
          have HX : Hid (wb.heap[XB]? = some (.cells #[.int .i64 A, .int .i64 C, .slice lo legs.length lcap] 68 (0, 0))) := by
            show _ = _
            rw [hwb, heap_alloc_old _ _ (by rw [hsx, hXB]; omega), hwx, hXB]; exact heap_alloc_new wr _
          have h1 : Calls Try.prog 33 #[.slice vo vn vc, .slice (some ⟨wr.heap.size + 1, 0, none⟩) 3 3] wb _ := step_nums (L := numsB g i) (ns := [A, C, (legs.length : Int)]) (NB := wr.heap.size + 1) HBW.out hb hN (bx.trans (bb.mono bx.size)) (by rw [hwb, ← hsx]; exact heap_alloc_new wx _) (by simp) hsm (by omega)
          have HXB := hideg hXB
          have HWB := hideg hwb
          have HWX := hideg hwx
          rw [hwb, hwx] at h1
          clear hwx hwb hsx bx bb hN hb hGA hbw hnl hsm hed hXB
          go_wp2_with fail
          refine h1.mono ?_
          rintro r w3 ⟨a3, n3, c3, rfl, hr3, hb3, hx3⟩
          rw [← HXB.out]
          have hx4 : w3.heap[XB]? = some (.cells #[.int .i64 A, .int .i64 C, .slice lo legs.length lcap] 68 (0, 0)) := hx3 XB _ _ (by decide) (by rw [← HWX.out, ← HWB.out]; exact HX.out)
          rw [← HC0.out] at hr3
          have HR3 := hideg hr3
          have HB3 := hideg hb3
          have HX3 := hideg hx4
          have y2 : w3.cell? ⟨XB, 2, none⟩ = some (.slice lo legs.length lcap) := by rw [Lib.cell_of_heap hx4]; rfl
          clear h1 q0 q1 q2 hr3 hb3 c0 c1 c2 hx3 hx4 HX HXB HWB HWX
          go_wp2_with fail
          clear y2
          go_loopw [5, 62] (fun o j wq => ∃ m : Nat, m ≤ legs.length ∧ j = .int .i64 (m : Int) ∧ RowIs B wq o (numsC g i (A, C, legs) m) ∧ Below B wA wq ∧ wq.heap[XB]? = some (.cells #[.int .i64 A, .int .i64 C, .slice lo legs.length lcap] 68 (0, 0))) (fun _ j _ => legs.length - (intOf j).toNat)
          case atStart => exact ⟨0, Nat.zero_le _, rfl, HR3.out, HB3.out, HX3.out⟩
          case round =>
            clear HR3 HB3 HX3
            obtain ⟨m, hm, rfl, hN, hb, hX⟩ := hrel
            obtain ⟨vo, vn, vc, rfl⟩ := hN.form
            by_cases hlt3 : m < legs.length
            · have hmi : (m : Int) < (legs.length : Int) := by omega
              have hmw : IntKind.i64.wrap ((m : Int) + 1) = (m : Int) + 1 := wrap_q _ (by omega) (by omega)
              have HS := hideg (HCs.out m hlt3)
              have hnl := HCl.out m
              have hsm := HSl.out _ (List.getElem_mem hlt3)
              rcases HLg.out wr hb with h0 | ⟨gb, gof, rfl, hgb, hcl⟩
              · rw [h0] at hlt3; simp at hlt3
              obtain ⟨z0, z1, z2, z3⟩ := hcl m hlt3
              rw [List.getD_eq_getElem?_getD, List.getElem?_eq_getElem hlt3] at z0 z1 z2 z3
              simp only [Option.getD_some] at z0 z1 z2 z3
              generalize legs[m] = ll at *
              obtain ⟨l1, l2, l3, l4⟩ := ll
              simp only at z0 z1 z2 z3 HS
              obtain ⟨wx, hwx⟩ : ∃ x, x = wr.alloc (.cells #[.int .i64 l1, .int .i64 l2, .int .i64 l3, .int .i64 l4] 70) := ⟨_, rfl⟩
              obtain ⟨wb, hwb⟩ : ∃ x, x = wx.alloc (.cells #[.int .i64 l1, .int .i64 l2, .int .i64 l3, .int .i64 l4] 3) := ⟨_, rfl⟩
              have hsx : wx.heap.size = wr.heap.size + 1 := by rw [hwx]; simp
              have bx : Below wr.heap.size wr wx := by rw [hwx]; exact gal wr _
              have bb : Below wx.heap.size wx wb := by rw [hwb]; exact gal wx _
              have bxb := bx.trans (bb.mono bx.size)
              have hXb : wb.heap[XB]? = some (.cells #[.int .i64 A, .int .i64 C, .slice (some ⟨gb, gof, none⟩) legs.length lcap] 68 (0, 0)) := (bxb.block XB (heap_ltg hX)).trans hX
              have h1 : Calls Try.prog 33 #[.slice vo vn vc, .slice (some ⟨wr.heap.size + 1, 0, none⟩) 4 4] wb _ := step_nums (L := numsC g i (A, C, legs) m) (ns := [l1, l2, l3, l4]) (NB := wr.heap.size + 1) HBW.out hb hN bxb (by rw [hwb, ← hsx]; exact heap_alloc_new wx _) (by simp) hsm (by omega)
              have HXb := hideg hXb
              rw [hwb, hwx] at h1 HXb
              clear hwx hwb hsx bx bb bxb hN hb hnl hsm hcl hX hXb
              go_wp2_with fail
              refine h1.mono ?_
              rintro r w5 ⟨a5, n5, c5, rfl, hr5, hb5, hx5⟩
              have HX5 := hideg (hx5 XB _ _ (by decide) HXb.out)
              rw [← HS.out] at hr5
              have HR5 := hideg hr5
              have HB5 := hideg hb5
              clear h1 hr5 hb5 hx5 HXb z0 z1 z2 z3
              go_wp2
              go_roundw
              case rel => exact ⟨m + 1, by omega, by go_num, HR5.out, HB5.out, HX5.out⟩
              case measure => simp [intOf]; omega
            · have hmn : ¬ ((m : Int) < (legs.length : Int)) := by omega
              obtain rfl : m = legs.length := by omega
              rw [HCa.out] at hN
              have HN := hideg hN
              have HB := hideg hb
              clear hN hb hX hlt3
              go_wp2
              go_roundw
              case rel => exact ⟨i + 1, by omega, by go_num, HN.out, HB.out⟩
              case measure => simp [intOf]; omega
        · have hin2 : ¬ ((i : Int) < (g.edges.length : Int)) := by omega
          obtain rfl : i = g.edges.length := by omega
          rw [numsB_all] at hN hnl
          have hcl := codeL_len (nums g)
          obtain ⟨LL, hLL⟩ : ∃ x, x = codeL (nums g) := ⟨_, rfl⟩
          have hN' : wr.ownsRow B 5 1 (.slice vo vn vc) LL.length (LL.map bv) := by rw [hLL]; exact hN
          have h1 := wSum_any B LL (.slice vo vn vc) LL.length wr (Nat.le_trans HBW.out hb.size) rfl (by rw [hLL]; omega) hN'
          rw [← hLL] at HCd
          rw [← HCd.out] at h1
          have HLo : Hid (∀ j, (Value.slice vo vn vc).ownBlock = some j → B ≤ j) := fun j hj => (hN'.lt j hj).1
          have HBr : Hid (B ≤ wr.heap.size) := Nat.le_trans HBW.out hb.size
          have HB := hideg hb
          clear hN hN' hGA hbw hlt2 q0 q1 q2 hcl hLL hnl hb
          obtain ⟨wo, hwo⟩ : ∃ x, x = wr := ⟨_, rfl⟩
          subst hwo
          go_wp2_with fail
          refine h1.mono ?_
          rintro r w9 ⟨v9, rfl, hr9, hg9⟩
          have hcv := row_text hr9 rfl
          have hbE := (HGx.out w9 (HB.out.grown hg9 HBr.out HLo.out)).2.2.2.2
          obtain ⟨a9, c9, rfl, _, _⟩ := row_form hr9
          generalize CD.length = n9 at *
          clear h1 hr9 hg9
          go_wp2
          go_ret2
          exact ⟨rfl, hbE⟩

set_option maxRecDepth 100000 in
set_option maxHeartbeats 1000000 in
theorem pEnc_any : EncOk := fun g la ea lc ec w hG => by
  by_cases hE : gChk g = 0
  · have he : encA g = (coded g, 0) := by unfold encA; rw [if_pos hE]
    rw [he]
    exact pEnc_ok g la ea lc ec w hG hE
  · have B0 := gbx_start w g la ea lc ec 25
    have h0 := gCheck_any g la ea lc ec _ (hG.below B0.bel)
    have he : encA g = ([], gChk g) := by unfold encA; rw [if_neg hE]
    rw [he]
    have d1 : (gChk g != 0) = true := by simpa using hE
    generalize gChk g = n at *
    clear hG he hE
    go_enter Try.func6, Try.ntmps6
    go_wp2_with fail
    refine h0.mono ?_
    rintro r w1 ⟨rfl, hb1⟩
    have hbE := (B0.below hb1).bel
    clear h0
    go_wp2
    go_ret2
    exact ⟨rfl, hbE⟩

end Go.Proofs.Yteibdmfcclkjpah
