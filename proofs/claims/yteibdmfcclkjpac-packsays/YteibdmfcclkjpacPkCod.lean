/-
  What Coded of the reference answers.
-/
import Derived.Test.YteibdmfcclkjpacPkNum
import Derived.Test.YteibdmfcclkjpacPkSum
import Derived.Laws.IdiomStrings
namespace Go.Proofs.Yteibdmfcclkjpac
open Go.RowKit

theorem Try.infoByteP : (Try.prog.info? 5).map (fun i => (i.zero, i.size, i.bytes)) = some (some (.int .u8 0), 1, 1) := by kernel_rfl
/-- a byte's value -/
def bv (b : UInt8) : Value := .int .u8 (b.toNat : Int)

theorem wrap_u8 (n : Int) (h0 : 0 ≤ n) (h1 : n < 256) : IntKind.u8.wrap n = n := by simp [IntKind.wrap, IntKind.bits, IntKind.signed]; omega
theorem byte_hi {x : Nat} (h : x < 65536) : IntKind.u8.wrap (IntKind.i64.wrap ((x : Int) / 256)) = ((UInt8.ofNat (x / 256)).toNat : Int) := by
  rw [wrap_q _ (by omega) (by omega), wrap_u8 _ (by omega) (by omega), UInt8.toNat_ofNat']
  omega
theorem byte_lo {x : Nat} : IntKind.u8.wrap ((x : Int).tmod 256) = ((UInt8.ofNat (x % 256)).toNat : Int) := by
  rw [Int.tmod_eq_emod_of_nonneg (Int.natCast_nonneg x), wrap_u8 _ (by omega) (by omega), UInt8.toNat_ofNat']
  omega
theorem code1_nat (x : Nat) : (code1 (x : Int)).map bv = [.int .u8 ((UInt8.ofNat (x / 256)).toNat : Int), .int .u8 ((UInt8.ofNat (x % 256)).toNat : Int)] := rfl
/-- a row of bytes as a text -/
theorem row_text {w : World} {B n : Nat} {v : Value} {l : List UInt8} (h : w.ownsRow B 5 1 v n (l.map bv)) (hn : n = l.length) : (convert 119 9 v).run Try.prog w = .ok (.string ⟨l.toArray⟩) w := by
  subst hn
  rcases h.2 with ⟨e, h0⟩ | ⟨b, cap, cur, e, _, hh, _⟩
  · have hl : l = [] := List.eq_nil_of_length_eq_zero h0
    subst hl
    rw [e, run_convert_bytes_string w 119 9 5 none 0 0 Try.underlying119 Try.underlying5 Try.underlying9]
    rfl
  · rw [e]
    refine run_convert_bytes_back (P := Try.prog) w 119 9 5 ⟨b, 0, none⟩ cap l Try.underlying119 Try.underlying5 Try.underlying9 fun j hj => ?_
    exact h.cells (g := b) (by rw [e]; rfl) j (bv l[j]) (by rw [List.getElem?_map, List.getElem?_eq_getElem hj]; rfl)

set_option maxRecDepth 100000 in
set_option maxHeartbeats 1000000 in
theorem PCoded_any (g : Gr) (la ea : Option Addr) (lc ec : Nat) (w : World) (hG : GAt w la ea g) (hR : Right g) :
    Calls Try.prog 36 #[.agg #[.int .i64 g.hor, .slice la g.lives.length lc, .slice ea g.edges.length ec]] w fun r w' => r = .returned (.string ⟨(coded g).toArray⟩) ∧ Below w.heap.size w w' := by
  obtain ⟨ib, hib, hb0, hb1, hb2⟩ := info_parts Try.infoByteP
  obtain ⟨wA, hwA⟩ : ∃ x, x = w.alloc (.cells #[.int .i64 g.hor, .slice la g.lives.length lc, .slice ea g.edges.length ec] 25) := ⟨_, rfl⟩
  have hbA : Below w.heap.size w wA := by rw [hwA]; exact gal w _
  have h1 := PNums_any g la ea lc ec wA (hG.below hbA) hR
  have HSm := hideg (nums_small hR)
  have HLn : Hid ((nums g).length ≤ 900) := by
    have := numsB_len hR g.edges.length
    have := hR.lvs
    have := hR.eds
    show _ ≤ _
    rw [← numsB_all]; omega
  have HWA := hideg hwA.symm
  have HCd : Hid (coded g = codeL (nums g) ++ sum4 (sumL (codeL (nums g))) 4) := rfl
  generalize nums g = L at *
  generalize coded g = CD at *
  clear hG hR hwA
  go_enter Try.func36, Try.ntmps36
  go_wp2_with fail
  rw [HWA.out]
  refine h1.mono ?_
  rintro r w1 ⟨u, rfl, hN, hb1'⟩
  obtain ⟨B, hB⟩ : ∃ B, B = wA.heap.size := ⟨_, rfl⟩
  rw [← hB] at hN hb1'
  have HN := hideg hN
  have HB := hideg hb1'
  have HBW := hideg hB
  obtain ⟨lo, lcp, rfl, _, _⟩ := row_form hN
  clear h1 hN hb1' HWA hB
  go_wp2_with fail
  go_loopw [3, 5] (fun o i wr => ∃ k : Nat, k ≤ L.length ∧ i = .int .i64 (k : Int) ∧ wr.ownsRow B 5 1 o (codeL (L.take k)).length ((codeL (L.take k)).map bv) ∧ wr.ownsRow B 3 1 (.slice lo L.length lcp) L.length (L.map (Value.int .i64)) ∧ Below B wA wr) (fun _ i _ => L.length - (intOf i).toNat)
  case atStart => exact ⟨0, Nat.zero_le _, rfl, World.ownsRow_nil _ _ _ _, HN.out, HB.out⟩
  case round =>
    clear HN HB
    obtain ⟨k, hk, rfl, hC, hN, hb⟩ := hrel
    have hcl := codeL_len (L.take k)
    have hLn := HLn.out
    rw [List.length_take] at hcl
    obtain ⟨vo, vc, rfl, _, _⟩ := row_form hC
    by_cases hlt : k < L.length
    · have hki : (k : Int) < (L.length : Int) := by omega
      have hkw : IntKind.i64.wrap ((k : Int) + 1) = (k : Int) + 1 := wrap_q _ (by omega) (by omega)
      obtain ⟨lb, rfl, hlb, c0⟩ : ∃ b, lo = some ⟨b, 0, none⟩ ∧ b < wr.heap.size ∧ wr.cell? ⟨b, k, none⟩ = some (.int .i64 L[k]) := by
        rcases hN.2 with ⟨e1, h0⟩ | ⟨b, cap, cur, e1, _, hh, _⟩
        · omega
        · simp only [Value.slice.injEq] at e1
          obtain ⟨rfl, _⟩ := e1
          refine ⟨b, rfl, heap_ltg hh, ?_⟩
          have h1 := hN.cells (g := b) rfl k (.int .i64 L[k]) (by rw [List.getElem?_map, List.getElem?_eq_getElem hlt]; rfl)
          have hadd : (⟨b, 0, none⟩ : Addr).add k = ⟨b, k, none⟩ := by unfold Addr.add; split <;> simp_all
          rw [hadd] at h1; exact h1
      have HS := hideg (codeL_take hlt)
      have hsm := HSm.out L[k] (List.getElem_mem hlt)
      generalize L[k] = nn at *
      obtain ⟨x, rfl⟩ : ∃ x : Nat, nn = (x : Int) := ⟨nn.toNat, by omega⟩
      generalize hn : (codeL (L.take k)).length = n at *
      have HC := hideg hC
      have HN := hideg hN
      have HB := hideg hb
      have hBr : B ≤ wr.heap.size := by have := hb.size; have := HBW.out; omega
      have hx : x < 65536 := by omega
      have hn18 : n ≤ 1800 := by omega
      clear hC hN hb hcl hsm
      go_wp2_with fail
      refine Go.wp_region_held (S := fun w' => w'.cell? ⟨lb, k, none⟩ = some (.int .i64 (x : Int))) (by kernel_rfl) ?_
      generalize hw8 : ({ wr with drawn := wr.drawn + 1 } : World) = wy
      have hby : Below wr.heap.size wr wy := by rw [← hw8]; exact below_drewN (Below.refl _ _) 1
      have hS0 : wy.cell? ⟨lb, k, none⟩ = some (.int .i64 (x : Int)) := (hby.cell (p := ⟨lb, k, none⟩) hlb).trans c0
      clear hw8
      refine take_lit (i := 0) (v := ?_) rfl (by kernel_rfl) (by kernel_rfl) (by kernel_rfl) (fun _ _ _ h => h) (Or.inl ⟨by rfl, ?hy0⟩) (by assumption) ?_
      case hy0 => (intro w hSw; (try dsimp only at hSw); go_simp; try with_reducible rfl)
      try simp only [Act.put, List.setIfInBounds_toArray, List.set_cons_zero, List.set_cons_succ]
      refine take_lit (i := 1) (v := ?_) rfl (by kernel_rfl) (by kernel_rfl) (by kernel_rfl) (fun _ _ _ h => h) (Or.inl ⟨by rfl, ?hy1⟩) (by assumption) ?_
      case hy1 => (intro w hSw; (try dsimp only at hSw); go_simp; try with_reducible rfl)
      try simp only [Act.put, List.setIfInBounds_toArray, List.set_cons_zero, List.set_cons_succ]
      refine take_lit (i := 2) (v := ?_) rfl (by kernel_rfl) (by kernel_rfl) (by kernel_rfl) (fun _ _ _ h => h) (Or.inl ⟨by rfl, ?hy2⟩) (by assumption) ?_
      case hy2 => (intro w hSw; (try dsimp only at hSw); go_simp; try with_reducible rfl)
      try simp only [Act.put, List.setIfInBounds_toArray, List.set_cons_zero, List.set_cons_succ]
      refine take_lit (i := 3) (v := ?_) rfl (by kernel_rfl) (by kernel_rfl) (by kernel_rfl) (fun _ _ _ h => h) (Or.inl ⟨by rfl, ?hy3⟩) (by assumption) ?_
      case hy3 => (intro w hSw; (try dsimp only at hSw); go_simp; try with_reducible rfl)
      try simp only [Act.put, List.setIfInBounds_toArray, List.set_cons_zero, List.set_cons_succ]
      refine take_lit (i := 4) (v := ?_) rfl (by kernel_rfl) (by kernel_rfl) (by kernel_rfl) (fun _ _ _ h => h) (Or.inl ⟨by rfl, ?hy4⟩) (by assumption) ?_
      case hy4 => (intro w hSw; (try dsimp only at hSw); go_simp; try with_reducible rfl)
      try simp only [Act.put, List.setIfInBounds_toArray, List.set_cons_zero, List.set_cons_succ]
      refine take_lit (i := 5) (v := ?_) rfl (by kernel_rfl) (by kernel_rfl) (by kernel_rfl) (fun _ _ _ h => h) (Or.inl ⟨by rfl, ?hy5⟩) (by assumption) ?_
      case hy5 => (intro w hSw; (try dsimp only at hSw); go_simp; try with_reducible rfl)
      try simp only [Act.put, List.setIfInBounds_toArray, List.set_cons_zero, List.set_cons_succ]
      refine take_lit (i := 6) (v := ?_) rfl (by kernel_rfl) (by kernel_rfl) (by kernel_rfl) (fun _ _ _ h => h) (Or.inl ⟨by rfl, ?hy6⟩) (by assumption) ?_
      case hy6 => (intro w hSw; (try dsimp only at hSw); go_simp; try with_reducible rfl)
      try simp only [Act.put, List.setIfInBounds_toArray, List.set_cons_zero, List.set_cons_succ]
      refine take_lit (i := 7) (v := ?_) rfl (by kernel_rfl) (by kernel_rfl) (by kernel_rfl) (fun _ _ _ h => h) (Or.inl ⟨by rfl, ?hy7⟩) (by assumption) ?_
      case hy7 => (intro w hSw; (try dsimp only at hSw); go_simp; try with_reducible rfl)
      try simp only [Act.put, List.setIfInBounds_toArray, List.set_cons_zero, List.set_cons_succ]
      refine take_lit (i := 8) (v := ?_) rfl (by kernel_rfl) (by kernel_rfl) (by kernel_rfl) (fun _ _ _ h => h) (Or.inl ⟨by rfl, ?hy8⟩) (by assumption) ?_
      case hy8 => (intro w hSw; (try dsimp only at hSw); go_simp; try with_reducible rfl)
      try simp only [Act.put, List.setIfInBounds_toArray, List.set_cons_zero, List.set_cons_succ]
      refine take_lit (i := 9) (v := ?_) rfl (by kernel_rfl) (by kernel_rfl) (by kernel_rfl) (fun _ _ _ h => h) (Or.inl ⟨by rfl, ?hy9⟩) (by assumption) ?_
      case hy9 => (intro w hSw; (try dsimp only at hSw); go_simp; try with_reducible rfl)
      try simp only [Act.put, List.setIfInBounds_toArray, List.set_cons_zero, List.set_cons_succ]
      refine take_lit (i := 10) (v := ?_) rfl (by kernel_rfl) (by kernel_rfl) (by kernel_rfl) (fun _ _ _ h => h) (Or.inl ⟨by rfl, ?hy10⟩) (by assumption) ?_
      case hy10 => (intro w hSw; (try dsimp only at hSw); go_simp; try with_reducible rfl)
      try simp only [Act.put, List.setIfInBounds_toArray, List.set_cons_zero, List.set_cons_succ]
      refine take_lit (i := 11) (v := ?_) rfl (by kernel_rfl) (by kernel_rfl) (by kernel_rfl) (fun _ _ _ h => h) (Or.inl ⟨by rfl, ?hy11⟩) (by assumption) ?_
      case hy11 => (intro w hSw; (try dsimp only at hSw); go_simp; try with_reducible rfl)
      try simp only [Act.put, List.setIfInBounds_toArray, List.set_cons_zero, List.set_cons_succ]
      refine take_lit (i := 12) (v := ?_) rfl (by kernel_rfl) (by kernel_rfl) (by kernel_rfl) (fun _ _ _ h => h) (Or.inl ⟨by rfl, ?hy12⟩) (by assumption) ?_
      case hy12 => (intro w hSw; (try dsimp only at hSw); go_simp; try with_reducible rfl)
      try simp only [Act.put, List.setIfInBounds_toArray, List.set_cons_zero, List.set_cons_succ]
      rw [byte_hi hx, byte_lo]
      have HS2 : Hid (codeL (L.take (k + 1)) = codeL (L.take k) ++ code1 (x : Int)) := HS.out
      have hcv := code1_nat x
      generalize ((UInt8.ofNat (x / 256)).toNat : Int) = h1v at *
      generalize ((UInt8.ofNat (x % 256)).toNat : Int) = h2v at *
      have HCV := hideg hcv
      clear hcv
      refine next_lit (i := 13) rfl (by kernel_rfl) (fun KK hK => ?_)
      go_simp
      have hwa : Below wr.heap.size wr (wy.alloc (.cells #[.int .u8 h1v, .int .u8 h2v] 5)) := hby.alloc hby.size _
      have n1 := (hwa.cell (p := ⟨lb, k, none⟩) hlb).trans c0
      refine hK.out _ _ n1 (fun _ => ?_)
      clear hK KK hS0
      try simp only [Act.put, List.setIfInBounds_toArray, List.set_cons_zero, List.set_cons_succ]
      refine next_lit (i := 14) rfl (by kernel_rfl) (fun KK hK => ?_)
      have hC0 := ownsRow_below HC.out hwa
      have hN0 := ownsRow_below HN.out hwa
      have hzy := hby.size
      refine step_append_lies _ (by rfl) _ _ _ (by rfl) B 5 ib _ 1 1 Try.underlying119 hib hb0 hb1 hb2 rfl (by omega) (.slice vo n vc) n ((codeL (L.take k)).map bv) (by rfl) hC0 ⟨wy.heap.size, 0, none⟩ 2 2 [.int .u8 h1v, .int .u8 h2v] (by rfl) (by rfl) (World.news_of_block (cs := #[.int .u8 h1v, .int .u8 h2v]) (t := 5) (fr := (0, 0)) (heap_alloc_new wy _)) (by simp [Value.oneCell']) (by omega) (by unfold maxLen; omega) (by omega) (by simp; omega) (wy.heap.size + 1) (by simp) ?_
      intro gg cap1 w4 hown1 hgrow hat hltg
      have hN4 := row_grown hN0 hC0 hgrow (by decide)
      have hlN : some lb ≠ (Value.slice vo n vc).ownBlock := by
        obtain ⟨cur, hc⟩ := row_block hN0 (b := lb) rfl
        exact fun e => row_ne hC0 hc (by decide) e.symm
      have x1 : w4.cell? ⟨lb, k, none⟩ = some (.int .i64 (x : Int)) := by rw [hgrow.cell_far _ (Nat.lt_of_lt_of_le hlb hwa.size) hlN]; exact n1
      have HB4 := hideg ((HB.out.trans (hwa.mono hBr)).grown hgrow (Nat.le_trans hBr hwa.size) (fun j hj => (hC0.lt j hj).1))
      have HN4 := hideg hN4
      have HC4 : Hid (w4.ownsRow B 5 1 (.slice (some ⟨gg, 0, none⟩) (n + 2) cap1) (codeL (L.take (k + 1))).length ((codeL (L.take (k + 1))).map bv)) := by
        show World.ownsRow _ _ _ _ _ _ _
        rw [HS2.out, List.length_append, List.map_append, hn, HCV.out]; exact hown1
      refine hK.out _ _ x1 (fun _ => ?_)
      clear hK KK hwa n1 hgrow hown1 hat hltg hN0 hC0 hN4
      try simp only [Act.put, List.setIfInBounds_toArray, List.set_cons_zero, List.set_cons_succ]
      have hS4 : w4.cell? ⟨lb, k, none⟩ = some (.int .i64 (x : Int)) := x1
      refine take_lit (i := 15) (v := ?_) rfl (by kernel_rfl) (by kernel_rfl) (by kernel_rfl) (fun _ _ _ h => h) (Or.inl ⟨by rfl, ?hy15⟩) (by assumption) ?_
      case hy15 => (intro w hSw; (try dsimp only at hSw); go_simp; try with_reducible rfl)
      try simp only [Act.put, List.setIfInBounds_toArray, List.set_cons_zero, List.set_cons_succ]
      refine wpAnyH_done (by kernel_rfl) ?_ _
      clear hS4 x1 c0
      go_wp2
      go_roundw
      case rel => exact ⟨k + 1, by omega, by go_num, HC4.out, HN4.out, HB4.out⟩
      case measure => simp [intOf]; omega
    · have hkn : ¬ ((k : Int) < (L.length : Int)) := by omega
      obtain rfl : k = L.length := by omega
      rw [List.take_length] at hC hcl
      have HC := hideg hC
      have HB := hideg hb
      have hcv := row_text hC rfl
      rw [List.take_length]
      have hSs := RSum32_any ⟨(codeL L).toArray⟩ wr (by show (codeL L).toArray.size ≤ _; simp; omega)
      rw [show (ByteArray.mk (codeL L).toArray).data.toList = codeL L by simp] at hSs
      have hsl := sumL_lt (codeL L)
      generalize sumL (codeL L) = sm at *
      generalize hq : (codeL L).length = n at *
      have hn18 : n ≤ 1800 := by omega
      obtain ⟨wo, hwo⟩ : ∃ x, x = wr := ⟨_, rfl⟩
      subst hwo
      clear hC hN hb hlt hcl
      go_wp2_with fail
      refine hSs.mono ?_
      rintro r w' ⟨rfl, rfl⟩
      clear hSs hcv
      go_wp2_with fail
      go_loopw [3, 6, 7] (fun o d j wq => ∃ m : Nat, m ≤ 4 ∧ j = .int .i64 (m : Int) ∧ d = .int .u32 ((sm / 256 ^ m : Nat) : Int) ∧ wq.ownsRow B 5 1 o (n + m) ((codeL L ++ sum4 sm m).map bv) ∧ Below B wA wq) (fun _ _ j _ => 4 - (intOf j).toNat)
      case atStart => exact ⟨0, Nat.zero_le _, rfl, by simp, by simpa [sum4] using HC.out, HB.out⟩
      case round =>
        clear HC HB
        obtain ⟨m, hm, rfl, rfl, hC, hb⟩ := hrel
        obtain ⟨vq, cq, rfl, _, _⟩ := row_form hC
        by_cases hm4 : m < 4
        · have hmi : (m : Int) < 4 := by omega
          have hmw : IntKind.i64.wrap ((m : Int) + 1) = (m : Int) + 1 := wrap_q _ (by omega) (by omega)
          have HD : Hid (((sm / 256 ^ m : Nat) : Int) / 256 = ((sm / 256 ^ (m + 1) : Nat) : Int)) := by
            show _ = _
            rw [Nat.pow_succ, ← Nat.div_div_eq_div_mul]
            generalize sm / 256 ^ m = d
            omega
          have HS : Hid (codeL L ++ sum4 sm (m + 1) = (codeL L ++ sum4 sm m) ++ [UInt8.ofNat (sm / 256 ^ m % 256)]) := by show _ = _; rw [sum4, List.append_assoc]
          have hdl : sm / 256 ^ m < 4294967296 := Nat.lt_of_le_of_lt (Nat.div_le_self _ _) hsl
          generalize sm / 256 ^ m = d at *
          have e1 : IntKind.u8.wrap ((d : Int) % 256) = ((UInt8.ofNat (d % 256)).toNat : Int) := by
            rw [wrap_u8 _ (by omega) (by omega), UInt8.toNat_ofNat']; omega
          have HBv : Hid (([UInt8.ofNat (d % 256)]).map bv = [.int .u8 ((UInt8.ofNat (d % 256)).toNat : Int)]) := rfl
          generalize ((UInt8.ofNat (d % 256)).toNat : Int) = bb at *
          have hBr : B ≤ wr.heap.size := by have := hb.size; have := HBW.out; omega
          obtain ⟨wb, hwb⟩ : ∃ x, x = wr.alloc (.cells #[.int .u8 bb] 5) := ⟨_, rfl⟩
          have bw : Below wr.heap.size wr wb := by rw [hwb]; exact gal wr _
          have HCb := hideg (ownsRow_below hC bw)
          have HNew := hideg (World.news_of_block (w := wb) (B := wr.heap.size) (cs := #[.int .u8 bb]) (t := 5) (fr := (0, 0)) (by rw [hwb]; exact heap_alloc_new wr _))
          have hbsz : B ≤ wb.heap.size := Nat.le_trans hBr bw.size
          have HBb := hideg (hb.trans (bw.mono hBr))
          have HWB := hideg hwb.symm
          clear hC hb bw hwb
          go_wp2_with (at_builtin; rw [HWB.out]; refine wpList_append_own_at _ rfl _ _ 119 rfl B 5 ib _ 1 1 Try.underlying119 hib hb0 hb1 hb2 rfl (by decide) _ _ _ rfl HCb.out ⟨wr.heap.size, 0, none⟩ 1 1 [.int .u8 bb] rfl rfl HNew.out (by intro u hu; simp at hu; subst hu; rfl) (by unfold maxLen; omega) (by omega) hbsz ?_; intro v' w5 hown5 hgrow _ _; have HC5 := hideg hown5; have HB5 := hideg (HBb.out.grown hgrow hbsz (fun q hq => (HCb.out.lt q hq).1)); clear hown5 hgrow)
          have HC6 : Hid (w5.ownsRow B 5 1 v' (n + (m + 1)) ((codeL L ++ sum4 sm (m + 1)).map bv)) := by
            show World.ownsRow _ _ _ _ _ _ _
            rw [HS.out, List.map_append, HBv.out]; exact HC5.out
          go_wp2
          go_roundw
          case rel => exact ⟨m + 1, by omega, by go_num, by rw [HD.out], HC6.out, HB5.out⟩
          case measure => simp [intOf]; omega
        · have hmn : ¬ ((m : Int) < 4) := by omega
          obtain rfl : m = 4 := by omega
          rw [← HCd.out] at hC
          have hcv := row_text hC (by rw [HCd.out, List.length_append, sum4_len, hq])
          have hbE : Below w.heap.size w wr := hbA.trans (hb.mono (by have := hbA.size; have := HBW.out; omega))
          clear hC hb
          go_wp2
          go_ret
          exact ⟨rfl, hbE⟩

end Go.Proofs.Yteibdmfcclkjpac
