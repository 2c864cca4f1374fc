/-
  What Fastest of the program answers.
-/
import Derived.Test.YtanbbkoleekmjaiChE
import Derived.Test.YtanbbkoleekmjaiChMat2
import Derived.Test.YtanbbkoleekmjaiJWalk
namespace Go.Proofs.Ytanbbkoleekmjai
open Go.RowKit

/-- is a number that of a vertex? -/
def vtxB (g : Gr) (v : Int) : Bool := decide (0 ≤ v) && decide (v < (g.lives.length : Int))
theorem vtxB_iff (g : Gr) (v : Int) : vtxB g v = true ↔ 0 ≤ v ∧ v < (g.lives.length : Int) := by unfold vtxB; simp
theorem vtxB_in (g : Gr) (v : Int) : vtxB g v = inR v 0 ((g.lives.length : Int) - 1) := by
  rw [Bool.eq_iff_iff, vtxB_iff, inR_iff]; omega
theorem hasVertex_any (g : Gr) (la ea : Option Addr) (lc ec : Nat) (v : Int) (w : World) (hl : g.lives.length ≤ 12) :
    Calls Try.prog 30 #[.agg #[.int .i64 g.hor, .slice la g.lives.length lc, .slice ea g.edges.length ec], .int .i64 v] w fun r w' => r = .returned (.bool (vtxB g v)) ∧ Below w.heap.size w w' := by
  rw [vtxB_in]
  exact gHasV_any g.hor la ea g.lives.length lc g.edges.length ec v w hl

/-- what Fastest tells -/
def FastE (g : Gr) (v q d a e : Int) : Prop :=
  (gChk g ≠ 0 ∧ e = gChk g ∧ d = 0 ∧ a = 0) ∨ (gChk g = 0 ∧ ¬ ((0 ≤ v ∧ v < (g.lives.length : Int)) ∧ 0 ≤ q ∧ q < (g.lives.length : Int)) ∧ e = 4 ∧ d = 0 ∧ a = 0) ∨
  (gChk g = 0 ∧ ((0 ≤ v ∧ v < (g.lives.length : Int)) ∧ 0 ≤ q ∧ q < (g.lives.length : Int)) ∧ FastIs g v q d a e)

/-- the states at which one may set out, of the times up to t -/
def outM (g : Gr) (v t : Int) : Mp := fun x y => if x = v ∧ aliveB y g.lives v = true ∧ y < t then some (-y, 0, 0, 0, 0, 0, 0) else none

theorem outM_first {g : Gr} {V : Nat} (hV : V < g.lives.length) : outM g (V : Int) g.lives[V].1 = fun _ _ => none := by
  funext x y
  unfold outM
  rw [if_neg]
  rintro ⟨_, h1, h2⟩
  rw [aliveB_at _ _ _ hV] at h1
  have := (hasB_iff _ _ _).1 h1
  omega
theorem outM_next {g : Gr} {V : Nat} (hV : V < g.lives.length) {t : Int} (h1 : g.lives[V].1 ≤ t) (h2 : t < g.lives[V].2) : mset (outM g (V : Int) t) (V : Int) t (-t, 0, 0, 0, 0, 0, 0) = outM g (V : Int) (t + 1) := by
  have ha : aliveB t g.lives (V : Int) = true := by rw [aliveB_at _ _ _ hV]; exact (hasB_iff _ _ _).2 ⟨h1, h2⟩
  funext x y
  unfold mset outM
  by_cases e : x = (V : Int) ∧ y = t
  · obtain ⟨rfl, rfl⟩ := e
    rw [if_pos ⟨rfl, rfl⟩, if_pos ⟨rfl, ha, by omega⟩]
  · rw [if_neg e]
    by_cases e2 : x = (V : Int) ∧ aliveB y g.lives (V : Int) = true ∧ y < t
    · rw [if_pos e2, if_pos ⟨e2.1, e2.2.1, by omega⟩]
    · rw [if_neg e2, if_neg (fun k => e2 ⟨k.1, k.2.1, by have := fun h => e ⟨k.1, h⟩; omega⟩)]
theorem outM_last {g : Gr} {V : Nat} (hV : V < g.lives.length) (x y : Int) : (outM g (V : Int) g.lives[V].2 x y).map (·.1) = FF g (V : Int) x y := by
  unfold outM FF
  by_cases e : x = (V : Int) ∧ aliveB y g.lives (V : Int) = true
  · have h1 := e.2
    rw [aliveB_at _ _ _ hV] at h1
    have := (hasB_iff _ _ _).1 h1
    rw [if_pos ⟨e.1, e.2, by omega⟩, if_pos e]; rfl
  · rw [if_neg (fun k => e ⟨k.1, k.2.1⟩), if_neg e]; rfl

set_option maxRecDepth 100000 in
set_option maxHeartbeats 1000000 in
theorem cFastest_any (g : Gr) (la ea : Option Addr) (lc ec : Nat) (v q : Int) (w : World) (hG : GAt w la ea g) :
    Calls Try.prog 12 #[.agg #[.int .i64 g.hor, .slice la g.lives.length lc, .slice ea g.edges.length ec], .int .i64 v, .int .i64 q] w fun r w' => ∃ d a e, r = .returned (.tuple #[.int .i64 d, .int .i64 a, .int .i64 e]) ∧ FastE g v q d a e ∧ Below w.heap.size w w' := by
  have B0 := gbx_start w g la ea lc ec 25
  have h1 := gCheck_any g la ea lc ec _ (hG.below B0.bel)
  by_cases e1 : gChk g = 0
  case neg =>
    have HP : Hid (FastE g v q 0 0 (gChk g)) := .inl ⟨e1, rfl, rfl, rfl⟩
    have d1 : (gChk g != 0) = true := by simpa using e1
    generalize gChk g = n at *
    clear e1 hG
    go_enter Try.func12, Try.ntmps12
    go_wp2_with fail
    refine h1.mono ?_
    rintro r w1 ⟨rfl, hb1⟩
    have hbF := (B0.below hb1).bel
    clear h1 hb1 B0
    go_wp2
    (try simp only [Exit.inBlock, Exit.then]); refine bodyPost_ret (results_tmp3j rfl _ _ _) rfl ?_
    exact ⟨_, _, _, rfl, HP.out, hbF⟩
  have hR := gChk_right e1
  have hv := fun W => hasVertex_any g la ea lc ec v W hR.lvs
  have hq := fun W => hasVertex_any g la ea lc ec q W hR.lvs
  have HNo : Hid (¬ (vtxB g v = true ∧ vtxB g q = true) → FastE g v q 0 0 4) := fun h => .inr (.inl ⟨e1, by rw [vtxB_iff, vtxB_iff] at h; exact h, rfl, rfl, rfl⟩)
  have HYes : Hid (vtxB g v = true ∧ vtxB g q = true → ∀ d a e, FastIs g v q d a e → FastE g v q d a e) := fun h d a e h' => .inr (.inr ⟨e1, by rw [vtxB_iff, vtxB_iff] at h; exact h, h'⟩)
  rw [e1] at h1
  have HVi := hideg (vtxB_iff g v)
  have HQi := hideg (vtxB_iff g q)
  have HRt := hideg hR
  have HG0 := hideg hG
  clear e1 hR hG
  cases bv : vtxB g v with
  | false =>
    rw [bv] at hv HNo
    have HF := hideg (HNo.out (by simp))
    clear HYes HNo HVi HQi hq bv
    go_enter Try.func12, Try.ntmps12
    go_wp2_with fail
    refine h1.mono ?_
    rintro r w1 ⟨rfl, hb1⟩
    have B1 := B0.below hb1
    have g0 := B1.c0
    have g1 := B1.c1
    have g2 := B1.c2
    clear h1 hb1 B0
    go_wp2_with fail
    refine (hv _).mono ?_
    rintro r w2 ⟨rfl, hb2⟩
    have hbF := (B1.below hb2).bel
    clear hv hb2 B1 g0 g1 g2
    go_wp2
    (try simp only [Exit.inBlock, Exit.then]); refine bodyPost_ret (results_tmp3j rfl _ _ _) rfl ?_
    exact ⟨_, _, _, rfl, HF.out, hbF⟩
  | true =>
    cases bq : vtxB g q with
    | false =>
      rw [bv] at hv
      rw [bq] at hq HNo
      have HF := hideg (HNo.out (by simp))
      clear HYes HNo HVi HQi bv bq
      go_enter Try.func12, Try.ntmps12
      go_wp2_with fail
      refine h1.mono ?_
      rintro r w1 ⟨rfl, hb1⟩
      have B1 := B0.below hb1
      have g0 := B1.c0
      have g1 := B1.c1
      have g2 := B1.c2
      clear h1 hb1 B0
      go_wp2_with fail
      refine (hv _).mono ?_
      rintro r w2 ⟨rfl, hb2⟩
      have B2 := B1.below hb2
      clear hv hb2 B1 g0 g1 g2
      have g0 := B2.c0
      have g1 := B2.c1
      have g2 := B2.c2
      go_wp2_with fail
      refine (hq _).mono ?_
      rintro r w3 ⟨rfl, hb3⟩
      have hbF := (B2.below hb3).bel
      clear hq hb3 B2 g0 g1 g2
      go_wp2
      (try simp only [Exit.inBlock, Exit.then]); refine bodyPost_ret (results_tmp3j rfl _ _ _) rfl ?_
      exact ⟨_, _, _, rfl, HF.out, hbF⟩
    | true =>
      rw [bv] at hv
      rw [bq] at hq
      have HY := hideg (HYes.out ⟨bv, bq⟩)
      obtain ⟨hv0, hv1⟩ := HVi.out.1 bv
      obtain ⟨hq0, hq1⟩ := HQi.out.1 bq
      clear HYes HNo HVi HQi bv bq
      obtain ⟨V, rfl⟩ : ∃ V : Nat, v = (V : Int) := ⟨v.toNat, by omega⟩
      obtain ⟨Y, rfl⟩ : ∃ Y : Nat, q = (Y : Int) := ⟨q.toNat, by omega⟩
      have hVg : V < g.lives.length := by omega
      have hVi : (V : Int) < (g.lives.length : Int) := by omega
      have hlf := HRt.out.life _ (List.getElem_mem hVg)
      have hhor := HRt.out.hor
      have hlv := HRt.out.lvs
      have HSp := hideg (fun b n M0 W (hGW : GAt W la ea g) (hMW : MapAt W b n M0) (hn : n ≤ 200) (hM0 : ∀ x y, (M0 x y).map (·.1) = FF g (V : Int) x y) => spread_any g la ea lc ec (FF g (V : Int)) prZero 0 32 (fun args w => Try.call32 args w) b n M0 W hGW HRt.out (FF_ok HRt.out hv0) hMW hn ⟨by omega, by omega⟩ hM0 (prZero_ok g) (fun x y p h => by have := ff_range HRt.out h; omega) nothing_any)
      have HF1 := hideg (outM_first hVg)
      have HF2 := hideg (fun t => outM_next (t := t) hVg)
      have HF3 := hideg (outM_last hVg)
      have HFa := hideg (fun M (S : SpE g (FF g (V : Int)) (fun _ => 0) M) => fast_of HRt.out (q := (Y : Int)) hv0 S)
      have HFr := hideg (fun M (S : SpE g (FF g (V : Int)) (fun _ => 0) M) x y z (hz : M x y = some z) => ff_range HRt.out (S.snd x y z hz))
      have hmm := @run_makeMap Try.prog
      have hY12 : (Y : Int) < 100 := by omega
      clear hq0 hq1 hv0 hv1
      go_enter Try.func12, Try.ntmps12
      go_wp2_with fail
      refine h1.mono ?_
      rintro r w1 ⟨rfl, hb1⟩
      have B1 := B0.below hb1
      have g0 := B1.c0
      have g1 := B1.c1
      have g2 := B1.c2
      clear h1 hb1 B0
      go_wp2_with fail
      refine (hv _).mono ?_
      rintro r w2 ⟨rfl, hb2⟩
      have B2 := B1.below hb2
      clear hv hb2 B1 g0 g1 g2
      have g0 := B2.c0
      have g1 := B2.c1
      have g2 := B2.c2
      go_wp2_with fail
      refine (hq _).mono ?_
      rintro r w3 ⟨rfl, hb3⟩
      have B3 := B2.below hb3
      clear hq hb3 B2 g0 g1 g2
      obtain ⟨w4, hw4⟩ : ∃ x, x = w3.alloc (.map #[] 0) := ⟨_, rfl⟩
      have hM4 : MapAt w4 w3.heap.size 0 (fun _ _ => none) := by rw [hw4]; exact mapAt_made w3
      have b4 : Below w3.heap.size w3 w4 := by rw [hw4]; exact gal w3 _
      have B4 := B3.below b4
      have G4 := HG0.out.below B4.bel
      have s3 := B3.lt
      obtain ⟨lb, lof, rfl, hlb, l0, l1⟩ : ∃ b off, la = some ⟨b, off, none⟩ ∧ b < w4.heap.size ∧ (w4.cell? ⟨b, off + V * 2, none⟩ = some (.int .i64 g.lives[V].1) ∧ w4.cell? ⟨b, off + V * 2 + 1, none⟩ = some (.int .i64 g.lives[V].2)) := by
        rcases G4.lv with h0 | ⟨b, off, rfl, hbr, hc⟩
        · rw [h0] at hVg; simp at hVg
        exact ⟨b, off, rfl, hbr, IvAt.get hVg hc⟩
      have hw4s := hw4.symm
      have HM4 := hideg hM4
      have HB4 := hideg B4
      have HG4 := hideg G4
      have HbB : Hid (w.heap.size ≤ w3.heap.size) := B3.bel.size
      have HL0 := hideg l0
      have HL1 := hideg l1
      have g1 := B4.c1
      obtain ⟨b, hb⟩ : ∃ b, b = w3.heap.size := ⟨_, rfl⟩
      generalize g.lives[V] = lf at *
      clear hw4 b4 hM4 B4 G4 B3 s3
      go_wp2_with fail
      clear hw4s
      rw [← hb] at HM4 HbB ⊢
      clear hb g1 l0 l1 hlb
      go_loopw [11] (fun x wr => ∃ k : Nat, lf.1 + (k : Int) ≤ lf.2 ∧ x = .int .i64 (lf.1 + (k : Int)) ∧ MapAt wr b k (outM g (V : Int) (lf.1 + (k : Int))) ∧ w4.grownBy wr (some b)) (fun x _ => (lf.2 - intOf x).toNat)
      case atStart => exact ⟨0, by simp only [Int.natCast_zero, Int.add_zero]; omega, by simp, by simp only [Int.natCast_zero, Int.add_zero]; rw [HF1.out]; exact HM4.out, gby_refl _ _⟩
      case round =>
        obtain ⟨k, hk, rfl, hMk, hg⟩ := hrel
        obtain ⟨g0, g1, g2⟩ := GBx.gby HM4.out hg HB4.out
        have l0 := HM4.out.cell hg HL0.out
        have l1 := HM4.out.cell hg HL1.out
        by_cases hkl : lf.1 + (k : Int) < lf.2
        · have hww : IntKind.i64.wrap (lf.1 + (k : Int) + 1) = lf.1 + (k : Int) + 1 := wrap_nj _ (by omega) (by omega)
          have hwn : IntKind.i64.wrap (-(lf.1 + (k : Int))) = -(lf.1 + (k : Int)) := wrap_nj _ (by omega) (by omega)
          have HF2k := hideg (HF2.out (lf.1 + (k : Int)) (by omega) hkl)
          obtain ⟨w5, hup, hM5, hg5⟩ := hMk.store (by unfold maxLen; omega) (v := (V : Int)) (t := lf.1 + (k : Int)) (wi_small (by omega) (by omega)) (wi_small (by omega) (by omega)) (-(lf.1 + (k : Int)), 0, 0, 0, 0, 0, 0)
          simp only [keyV, encV_mk] at hup
          rw [HF2k.out] at hM5
          have HM5 := hideg hM5
          have HG5 := hideg (gby_trans hg hg5)
          clear hMk hg hM5 hg5 HF2k
          go_wp2
          go_roundw
          case rel => exact ⟨k + 1, by omega, by congr 1; omega, by rw [show lf.1 + ((k + 1 : Nat) : Int) = lf.1 + (k : Int) + 1 by omega]; exact HM5.out, HG5.out⟩
          case measure => simp [intOf]; omega
        · have hke : lf.1 + (k : Int) = lf.2 := by omega
          rw [hke] at hMk hkl ⊢
          have hSp := HSp.out b k _ wr (HM4.out.gat hg HG4.out) hMk (by omega) HF3.out
          have HBr : Hid (∀ W, wr.grownBy W (some b) → Below w.heap.size w W ∧ W.cell? ⟨w.heap.size, 0, none⟩ = some (.int .i64 g.hor)) := fun W h => ⟨((HB4.out.bel.grown hg HB4.out.bel.size (fun j hj => by cases hj; exact HbB.out)).grown h (Nat.le_trans HB4.out.bel.size hg.size) (fun j hj => by cases hj; exact HbB.out)), HM4.out.cell (gby_trans hg h) HB4.out.c0⟩
          clear hMk hg HSp HF1 HF2 HF3 hke
          go_wp2_with fail
          refine hSp.mono ?_
          rintro r w5 ⟨⟨vv, rfl⟩, ⟨n5, M5, hM5, hE5⟩, hg5⟩
          obtain ⟨hb5, k0⟩ := HBr.out w5 hg5
          have HB5 := hideg hb5
          have HM5 := hideg hM5
          obtain ⟨HA1, HA2⟩ := HFa.out M5 hE5
          have HA1 := hideg HA1
          have HA2 := hideg HA2
          have HR5 := hideg (HFr.out M5 hE5 (Y : Int))
          obtain ⟨H, hH⟩ : ∃ H : Nat, g.hor = (H : Int) := ⟨g.hor.toNat, by omega⟩
          rw [hH, Int.toNat_natCast] at HA1 HA2
          rw [hH] at k0
          clear hSp hM5 hE5 hg5 hb5 g0 g1 g2 l0 l1 HBr HFa HFr HM4 HB4 HG4 HL0 HL1
          have hH1 : H ≤ 100 := by omega
          go_wp2_with fail
          clear k0
          go_loopw [12, 13, 61] (fun x y i wr => ∃ k : Nat, k ≤ H ∧ i = .int .i64 k ∧ x = .int .i64 (fsF M5 (Y : Int) k).1 ∧ y = .int .i64 (fsF M5 (Y : Int) k).2 ∧ Below w5.heap.size w5 wr) (fun _ _ i _ => H - (intOf i).toNat)
          case atStart => exact ⟨0, Nat.zero_le _, rfl, rfl, rfl, Below.refl _ _⟩
          case round =>
            obtain ⟨k, hk, rfl, rfl, rfl, hbr⟩ := hrel
            by_cases hkl : k < H
            · have hki : (k : Int) < (H : Int) := by omega
              have hkw : IntKind.i64.wrap ((k : Int) + 1) = (k : Int) + 1 := wrap_nj _ (by omega) (by omega)
              have q1 := (HM5.out.below hbr).look (v := (Y : Int)) (t := (k : Int)) (wi_small (by omega) (by omega)) (wi_small (by omega) (by omega))
              have HSu : Hid (fsF M5 (Y : Int) (k + 1) = match M5 (Y : Int) (k : Int) with | none => fsF M5 (Y : Int) k | some z => if (k : Int) + z.1 < (fsF M5 (Y : Int) k).1 then ((k : Int) + z.1, -z.1) else fsF M5 (Y : Int) k) := rfl
              have HBk : Hid (∀ o N, Below w5.heap.size w5 ((wr.alloc o).drewN N)) := fun o N => below_drewN (hbr.alloc hbr.size o) N
              have HBk0 : Hid (∀ o, Below w5.heap.size w5 (wr.alloc o)) := fun o => hbr.alloc hbr.size o
              generalize fsF M5 (Y : Int) k = fk at *
              obtain ⟨x0, y0⟩ := fk
              clear hbr
              cases hz : M5 (Y : Int) (k : Int) with
              | none =>
                rw [hz] at q1 HSu
                simp only [keyV, Option.getD_none, encV_mk, Option.isSome_none] at q1
                simp only at HSu ⊢
                clear hz
                go_wp2
                go_roundw
                case rel => exact ⟨k + 1, by omega, by go_num, by rw [HSu.out], by rw [HSu.out], HBk0.out _⟩
                case measure => simp [intOf]; omega
              | some z =>
                obtain ⟨q, E2, d2, a2, e2, ar2, c2⟩ := z
                have hqr := HR5.out (k : Int) _ hz
                rw [hz] at q1 HSu
                simp only [keyV, Option.getD_some, encV_mk, Option.isSome_some] at q1
                simp only at HSu hqr ⊢
                have hw2 : IntKind.i64.wrap ((k : Int) + q) = (k : Int) + q := wrap_nj _ (by omega) (by omega)
                have hw3 : IntKind.i64.wrap (-q) = -q := wrap_nj _ (by omega) (by omega)
                obtain ⟨wa, hwa⟩ : ∃ x, x = wr.alloc (.cells #[.int .i64 q, .int .i64 E2, .int .i64 d2, .int .i64 a2, .int .i64 e2, .int .i64 ar2, .int .i64 c2] 70) := ⟨_, rfl⟩
                have v0 : wa.cell? ⟨wr.heap.size, 0, none⟩ = some (.int .i64 q) := by rw [hwa]; exact new_cell rfl rfl
                have HBa : Hid (∀ N, Below w5.heap.size w5 (wa.drewN N)) := fun N => by rw [hwa]; exact HBk.out _ N
                have HBb : Hid (Below w5.heap.size w5 wa) := by rw [hwa]; exact HBk0.out _
                have hwas := hwa.symm
                clear hwa hz HBk HBk0
                by_cases hl : (k : Int) + q < x0
                · have HS2 : Hid (fsF M5 (Y : Int) (k + 1) = ((k : Int) + q, -q)) := by show _ = _; rw [HSu.out, if_pos hl]
                  clear HSu
                  go_wp2_with fail
                  go_quiet (fail)
                  clear v0
                  go_wp2
                  go_roundw
                  case rel => exact ⟨k + 1, by omega, by go_num, by rw [HS2.out], by rw [HS2.out], HBa.out _⟩
                  case measure => simp [intOf]; omega
                · have HS2 : Hid (fsF M5 (Y : Int) (k + 1) = (x0, y0)) := by show _ = _; rw [HSu.out, if_neg hl]
                  clear HSu
                  go_wp2
                  go_roundw
                  case rel => exact ⟨k + 1, by omega, by go_num, by rw [HS2.out], by rw [HS2.out], HBb.out⟩
                  case measure => simp [intOf]; omega
            · have hke : H = k := by omega
              subst hke
              have HbF : Hid (Below w.heap.size w wr) := HB5.out.trans (hbr.mono HB5.out.size)
              clear hbr
              generalize fsF M5 (Y : Int) H = fk at *
              obtain ⟨x0, y0⟩ := fk
              simp only at HA1 HA2 ⊢
              by_cases hx : x0 = 1099511627776
              · have HX := hideg (HY.out _ _ _ (HA1.out hx))
                have dx : (x0 == 1099511627776) = true := by simpa using hx
                clear HA1 HA2 HY
                go_wp2
                (try simp only [Exit.inBlock, Exit.then]); refine bodyPost_ret (results_tmp3j rfl _ _ _) rfl ?_
                exact ⟨_, _, _, rfl, HX.out, HbF.out⟩
              · have HX := hideg (HY.out _ _ _ (HA2.out hx))
                have dx : (x0 == 1099511627776) = false := by simpa using hx
                clear HA1 HA2 HY
                go_wp2
                (try simp only [Exit.inBlock, Exit.then]); refine bodyPost_ret (results_tmp3j rfl _ _ _) rfl ?_
                exact ⟨_, _, _, rfl, HX.out, HbF.out⟩

end Go.Proofs.Ytanbbkoleekmjai
