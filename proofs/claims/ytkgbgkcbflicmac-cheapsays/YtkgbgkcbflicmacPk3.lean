/-
  PROVED: whatever is handed in, the law CheapSays returns true (Costs, Hops and Fastest of the cheapest answer what the document says), and its arguments read afterwards as they read before. Conditions: none.
-/
import Derived.Maps.AppendAt
import Derived.Shelf.Abstract
import Derived.ProofKit
import Derived.OpenShut
import Derived.ChangeOld
import Derived.Deep.SlicePairs
import Derived.Test.YtkgbgkcbflicmacPk1
import Derived.Test.YtkgbgkcbflicmacPk2

namespace Go.Proofs.Ytkgbgkcbflicmac
open Go.RowKit

/-- is a number that of a vertex? -/
def vtxB (g : Gr) (v : Int) : Bool := decide (0 ≤ v) && decide (v < (g.lives.length : Int))
theorem vtxB_iff (g : Gr) (v : Int) : vtxB g v = true ↔ 0 ≤ v ∧ v < (g.lives.length : Int) := by unfold vtxB; simp
set_option maxRecDepth 100000 in
theorem hasVertex_any (g : Gr) (la ea : Option Addr) (lc ec : Nat) (v : Int) (w : World) :
    Calls Try.prog 28 #[.agg #[.int .i64 g.hor, .slice la g.lives.length lc, .slice ea g.edges.length ec], .int .i64 v] w fun r w' => r = .returned (.bool (vtxB g v)) ∧ Below w.heap.size w w' := by
  have HB := hideg (gal w)
  by_cases h1 : 0 ≤ v
  · have d1 : decide (0 ≤ v) = true := by simpa using h1
    have HE : Hid (vtxB g v = decide (v < (g.lives.length : Int))) := by show _ = _; unfold vtxB; rw [d1, Bool.true_and]
    go_enter Try.func28, Try.ntmps28
    go_wp2
    go_ret
    exact ⟨by rw [HE.out]; rfl, HB.out _⟩
  · have d1 : decide (0 ≤ v) = false := by simpa using h1
    have HE : Hid (vtxB g v = false) := by show _ = _; unfold vtxB; rw [d1, Bool.false_and]
    go_enter Try.func28, Try.ntmps28
    go_wp2
    go_ret
    exact ⟨by rw [HE.out]; rfl, HB.out _⟩

/-- what Fastest tells -/
def FastE (g : Gr) (v q d a e : Int) : Prop :=
  (gChk g ≠ 0 ∧ e = gChk g ∧ d = 0 ∧ a = 0) ∨ (gChk g = 0 ∧ ¬ ((0 ≤ v ∧ v < (g.lives.length : Int)) ∧ 0 ≤ q ∧ q < (g.lives.length : Int)) ∧ e = 4 ∧ d = 0 ∧ a = 0) ∨
  (gChk g = 0 ∧ ((0 ≤ v ∧ v < (g.lives.length : Int)) ∧ 0 ≤ q ∧ q < (g.lives.length : Int)) ∧ FastIs g v q d a e)

/-- the states at which one may set out, of the times up to t -/
def outM (g : Gr) (v t : Int) : Mp := fun x y => if x = v ∧ aliveB y g.lives v = true ∧ y < t then some (-y, 0, 0, 0, 0, 0, 0) else none

theorem outM_first {g : Gr} {V : Nat} (hV : V < g.lives.length) : outM g (V : Int) g.lives[V].1 = fun _ _ => none := by
  funext x y
  unfold outM
  rw [if_neg]
  rintro ⟨_, h1, h2⟩
  rw [aliveB_at _ _ _ hV] at h1
  have := (hasB_iff _ _ _).1 h1
  omega
theorem outM_next {g : Gr} {V : Nat} (hV : V < g.lives.length) {t : Int} (h1 : g.lives[V].1 ≤ t) (h2 : t < g.lives[V].2) : mset (outM g (V : Int) t) (V : Int) t (-t, 0, 0, 0, 0, 0, 0) = outM g (V : Int) (t + 1) := by
  have ha : aliveB t g.lives (V : Int) = true := by rw [aliveB_at _ _ _ hV]; exact (hasB_iff _ _ _).2 ⟨h1, h2⟩
  funext x y
  unfold mset outM
  by_cases e : x = (V : Int) ∧ y = t
  · obtain ⟨rfl, rfl⟩ := e
    rw [if_pos ⟨rfl, rfl⟩, if_pos ⟨rfl, ha, by omega⟩]
  · rw [if_neg e]
    by_cases e2 : x = (V : Int) ∧ aliveB y g.lives (V : Int) = true ∧ y < t
    · rw [if_pos e2, if_pos ⟨e2.1, e2.2.1, by omega⟩]
    · rw [if_neg e2, if_neg (fun k => e2 ⟨k.1, k.2.1, by have := fun h => e ⟨k.1, h⟩; omega⟩)]
theorem outM_last {g : Gr} {V : Nat} (hV : V < g.lives.length) (x y : Int) : (outM g (V : Int) g.lives[V].2 x y).map (·.1) = FF g (V : Int) x y := by
  unfold outM FF
  by_cases e : x = (V : Int) ∧ aliveB y g.lives (V : Int) = true
  · have h1 := e.2
    rw [aliveB_at _ _ _ hV] at h1
    have := (hasB_iff _ _ _).1 h1
    rw [if_pos ⟨e.1, e.2, by omega⟩, if_pos e]; rfl
  · rw [if_neg (fun k => e ⟨k.1, k.2.1⟩), if_neg e]; rfl

set_option maxRecDepth 100000 in
set_option maxHeartbeats 1000000 in
theorem cFastest_any (g : Gr) (la ea : Option Addr) (lc ec : Nat) (v q : Int) (w : World) (hG : GAt w la ea g) :
    Calls Try.prog 15 #[.agg #[.int .i64 g.hor, .slice la g.lives.length lc, .slice ea g.edges.length ec], .int .i64 v, .int .i64 q] w fun r w' => ∃ d a e, r = .returned (.tuple #[.int .i64 d, .int .i64 a, .int .i64 e]) ∧ FastE g v q d a e ∧ Below w.heap.size w w' := by
  have B0 := gbx_start w g la ea lc ec 25
  have h1 := gCheck_any g la ea lc ec _ (hG.below B0.bel)
  by_cases e1 : gChk g = 0
  case neg =>
    have HP : Hid (FastE g v q 0 0 (gChk g)) := .inl ⟨e1, rfl, rfl, rfl⟩
    have d1 : (gChk g != 0) = true := by simpa using e1
    generalize gChk g = n at *
    clear e1 hG
    go_enter Try.func15, Try.ntmps15
    go_wp2_with fail
    refine h1.mono ?_
    rintro r w1 ⟨rfl, hb1⟩
    have hbF := (B0.below hb1).bel
    clear h1 hb1 B0
    go_wp2
    (try simp only [Exit.inBlock, Exit.then]); refine bodyPost_ret (results_tmp3j rfl _ _ _) rfl ?_
    exact ⟨_, _, _, rfl, HP.out, hbF⟩
  have hR := gChk_right e1
  have hv := fun W => hasVertex_any g la ea lc ec v W
  have hq := fun W => hasVertex_any g la ea lc ec q W
  have HNo : Hid (¬ (vtxB g v = true ∧ vtxB g q = true) → FastE g v q 0 0 4) := fun h => .inr (.inl ⟨e1, by rw [vtxB_iff, vtxB_iff] at h; exact h, rfl, rfl, rfl⟩)
  have HYes : Hid (vtxB g v = true ∧ vtxB g q = true → ∀ d a e, FastIs g v q d a e → FastE g v q d a e) := fun h d a e h' => .inr (.inr ⟨e1, by rw [vtxB_iff, vtxB_iff] at h; exact h, h'⟩)
  rw [e1] at h1
  have HVi := hideg (vtxB_iff g v)
  have HQi := hideg (vtxB_iff g q)
  have HRt := hideg hR
  have HG0 := hideg hG
  clear e1 hR hG
  cases bv : vtxB g v with
  | false =>
    rw [bv] at hv HNo
    have HF := hideg (HNo.out (by simp))
    clear HYes HNo HVi HQi hq bv
    go_enter Try.func15, Try.ntmps15
    go_wp2_with fail
    refine h1.mono ?_
    rintro r w1 ⟨rfl, hb1⟩
    have B1 := B0.below hb1
    have g0 := B1.c0
    have g1 := B1.c1
    have g2 := B1.c2
    clear h1 hb1 B0
    go_wp2_with fail
    refine (hv _).mono ?_
    rintro r w2 ⟨rfl, hb2⟩
    have hbF := (B1.below hb2).bel
    clear hv hb2 B1 g0 g1 g2
    go_wp2
    (try simp only [Exit.inBlock, Exit.then]); refine bodyPost_ret (results_tmp3j rfl _ _ _) rfl ?_
    exact ⟨_, _, _, rfl, HF.out, hbF⟩
  | true =>
    cases bq : vtxB g q with
    | false =>
      rw [bv] at hv
      rw [bq] at hq HNo
      have HF := hideg (HNo.out (by simp))
      clear HYes HNo HVi HQi bv bq
      go_enter Try.func15, Try.ntmps15
      go_wp2_with fail
      refine h1.mono ?_
      rintro r w1 ⟨rfl, hb1⟩
      have B1 := B0.below hb1
      have g0 := B1.c0
      have g1 := B1.c1
      have g2 := B1.c2
      clear h1 hb1 B0
      go_wp2_with fail
      refine (hv _).mono ?_
      rintro r w2 ⟨rfl, hb2⟩
      have B2 := B1.below hb2
      clear hv hb2 B1 g0 g1 g2
      have g0 := B2.c0
      have g1 := B2.c1
      have g2 := B2.c2
      go_wp2_with fail
      refine (hq _).mono ?_
      rintro r w3 ⟨rfl, hb3⟩
      have hbF := (B2.below hb3).bel
      clear hq hb3 B2 g0 g1 g2
      go_wp2
      (try simp only [Exit.inBlock, Exit.then]); refine bodyPost_ret (results_tmp3j rfl _ _ _) rfl ?_
      exact ⟨_, _, _, rfl, HF.out, hbF⟩
    | true =>
      rw [bv] at hv
      rw [bq] at hq
      have HY := hideg (HYes.out ⟨bv, bq⟩)
      obtain ⟨hv0, hv1⟩ := HVi.out.1 bv
      obtain ⟨hq0, hq1⟩ := HQi.out.1 bq
      clear HYes HNo HVi HQi bv bq
      obtain ⟨V, rfl⟩ : ∃ V : Nat, v = (V : Int) := ⟨v.toNat, by omega⟩
      obtain ⟨Y, rfl⟩ : ∃ Y : Nat, q = (Y : Int) := ⟨q.toNat, by omega⟩
      have hVg : V < g.lives.length := by omega
      have hVi : (V : Int) < (g.lives.length : Int) := by omega
      have hlf := HRt.out.life _ (List.getElem_mem hVg)
      have hhor := HRt.out.hor
      have hlv := HRt.out.lvs
      have HSp := hideg (fun b n M0 W (hGW : GAt W la ea g) (hMW : MapAt W b n M0) (hn : n ≤ 200) (hM0 : ∀ x y, (M0 x y).map (·.1) = FF g (V : Int) x y) => spread_any g la ea lc ec (FF g (V : Int)) prZero 0 30 (fun args w => Try.call30 args w) b n M0 W hGW HRt.out (FF_ok HRt.out hv0) hMW hn ⟨by omega, by omega⟩ hM0 (prZero_ok g) (fun x y p h => by have := ff_range HRt.out h; omega) nothing_any)
      have HF1 := hideg (outM_first hVg)
      have HF2 := hideg (fun t => outM_next (t := t) hVg)
      have HF3 := hideg (outM_last hVg)
      have HFa := hideg (fun M (S : SpE g (FF g (V : Int)) (fun _ => 0) M) => fast_of HRt.out (q := (Y : Int)) hv0 S)
      have HFr := hideg (fun M (S : SpE g (FF g (V : Int)) (fun _ => 0) M) x y z (hz : M x y = some z) => ff_range HRt.out (S.snd x y z hz))
      have hmm := @run_makeMap Try.prog
      have hY12 : (Y : Int) < 100 := by omega
      clear hq0 hq1 hv0 hv1
      go_enter Try.func15, Try.ntmps15
      go_wp2_with fail
      refine h1.mono ?_
      rintro r w1 ⟨rfl, hb1⟩
      have B1 := B0.below hb1
      have g0 := B1.c0
      have g1 := B1.c1
      have g2 := B1.c2
      clear h1 hb1 B0
      go_wp2_with fail
      refine (hv _).mono ?_
      rintro r w2 ⟨rfl, hb2⟩
      have B2 := B1.below hb2
      clear hv hb2 B1 g0 g1 g2
      have g0 := B2.c0
      have g1 := B2.c1
      have g2 := B2.c2
      go_wp2_with fail
      refine (hq _).mono ?_
      rintro r w3 ⟨rfl, hb3⟩
      have B3 := B2.below hb3
      clear hq hb3 B2 g0 g1 g2
      obtain ⟨w4, hw4⟩ : ∃ x, x = w3.alloc (.map #[] 0) := ⟨_, rfl⟩
      have hM4 : MapAt w4 w3.heap.size 0 (fun _ _ => none) := by rw [hw4]; exact mapAt_made w3
      have b4 : Below w3.heap.size w3 w4 := by rw [hw4]; exact gal w3 _
      have B4 := B3.below b4
      have G4 := HG0.out.below B4.bel
      have s3 := B3.lt
      obtain ⟨lb, lof, rfl, hlb, l0, l1⟩ : ∃ b off, la = some ⟨b, off, none⟩ ∧ b < w4.heap.size ∧ (w4.cell? ⟨b, off + V * 2, none⟩ = some (.int .i64 g.lives[V].1) ∧ w4.cell? ⟨b, off + V * 2 + 1, none⟩ = some (.int .i64 g.lives[V].2)) := by
        rcases G4.lv with h0 | ⟨b, off, rfl, hbr, hc⟩
        · rw [h0] at hVg; simp at hVg
        exact ⟨b, off, rfl, hbr, IvAt.get hVg hc⟩
      have hw4s := hw4.symm
      have HM4 := hideg hM4
      have HB4 := hideg B4
      have HG4 := hideg G4
      have HbB : Hid (w.heap.size ≤ w3.heap.size) := B3.bel.size
      have HL0 := hideg l0
      have HL1 := hideg l1
      have g1 := B4.c1
      obtain ⟨b, hb⟩ : ∃ b, b = w3.heap.size := ⟨_, rfl⟩
      generalize g.lives[V] = lf at *
      clear hw4 b4 hM4 B4 G4 B3 s3
      go_wp2_with fail
      clear hw4s
      rw [← hb] at HM4 HbB ⊢
      clear hb g1 l0 l1 hlb
      go_loopw [11] (fun x wr => ∃ k : Nat, lf.1 + (k : Int) ≤ lf.2 ∧ x = .int .i64 (lf.1 + (k : Int)) ∧ MapAt wr b k (outM g (V : Int) (lf.1 + (k : Int))) ∧ w4.grownBy wr (some b)) (fun x _ => (lf.2 - intOf x).toNat)
      case atStart => exact ⟨0, by simp only [Int.natCast_zero, Int.add_zero]; omega, by simp, by simp only [Int.natCast_zero, Int.add_zero]; rw [HF1.out]; exact HM4.out, gby_refl _ _⟩
      case round =>
        obtain ⟨k, hk, rfl, hMk, hg⟩ := hrel
        obtain ⟨g0, g1, g2⟩ := GBx.gby HM4.out hg HB4.out
        have l0 := HM4.out.cell hg HL0.out
        have l1 := HM4.out.cell hg HL1.out
        by_cases hkl : lf.1 + (k : Int) < lf.2
        · have hww : IntKind.i64.wrap (lf.1 + (k : Int) + 1) = lf.1 + (k : Int) + 1 := wrap_nj _ (by omega) (by omega)
          have hwn : IntKind.i64.wrap (-(lf.1 + (k : Int))) = -(lf.1 + (k : Int)) := wrap_nj _ (by omega) (by omega)
          have HF2k := hideg (HF2.out (lf.1 + (k : Int)) (by omega) hkl)
          obtain ⟨w5, hup, hM5, hg5⟩ := hMk.store (by unfold maxLen; omega) (v := (V : Int)) (t := lf.1 + (k : Int)) (wi_small (by omega) (by omega)) (wi_small (by omega) (by omega)) (-(lf.1 + (k : Int)), 0, 0, 0, 0, 0, 0)
          simp only [keyV, encV_mk] at hup
          rw [HF2k.out] at hM5
          have HM5 := hideg hM5
          have HG5 := hideg (gby_trans hg hg5)
          clear hMk hg hM5 hg5 HF2k
          go_wp2
          go_roundw
          case rel => exact ⟨k + 1, by omega, by congr 1; omega, by rw [show lf.1 + ((k + 1 : Nat) : Int) = lf.1 + (k : Int) + 1 by omega]; exact HM5.out, HG5.out⟩
          case measure => simp [intOf]; omega
        · have hke : lf.1 + (k : Int) = lf.2 := by omega
          rw [hke] at hMk hkl ⊢
          have hSp := HSp.out b k _ wr (HM4.out.gat hg HG4.out) hMk (by omega) HF3.out
          have HBr : Hid (∀ W, wr.grownBy W (some b) → Below w.heap.size w W ∧ W.cell? ⟨w.heap.size, 0, none⟩ = some (.int .i64 g.hor)) := fun W h => ⟨((HB4.out.bel.grown hg HB4.out.bel.size (fun j hj => by cases hj; exact HbB.out)).grown h (Nat.le_trans HB4.out.bel.size hg.size) (fun j hj => by cases hj; exact HbB.out)), HM4.out.cell (gby_trans hg h) HB4.out.c0⟩
          clear hMk hg HSp HF1 HF2 HF3 hke
          go_wp2_with fail
          refine hSp.mono ?_
          rintro r w5 ⟨⟨vv, rfl⟩, ⟨n5, M5, hM5, hE5⟩, hg5⟩
          obtain ⟨hb5, k0⟩ := HBr.out w5 hg5
          have HB5 := hideg hb5
          have HM5 := hideg hM5
          obtain ⟨HA1, HA2⟩ := HFa.out M5 hE5
          have HA1 := hideg HA1
          have HA2 := hideg HA2
          have HR5 := hideg (HFr.out M5 hE5 (Y : Int))
          obtain ⟨H, hH⟩ : ∃ H : Nat, g.hor = (H : Int) := ⟨g.hor.toNat, by omega⟩
          rw [hH, Int.toNat_natCast] at HA1 HA2
          rw [hH] at k0
          clear hSp hM5 hE5 hg5 hb5 g0 g1 g2 l0 l1 HBr HFa HFr HM4 HB4 HG4 HL0 HL1
          have hH1 : H ≤ 100 := by omega
          go_wp2_with fail
          clear k0
          go_loopw [12, 13, 61] (fun x y i wr => ∃ k : Nat, k ≤ H ∧ i = .int .i64 k ∧ x = .int .i64 (fsF M5 (Y : Int) k).1 ∧ y = .int .i64 (fsF M5 (Y : Int) k).2 ∧ Below w5.heap.size w5 wr) (fun _ _ i _ => H - (intOf i).toNat)
          case atStart => exact ⟨0, Nat.zero_le _, rfl, rfl, rfl, Below.refl _ _⟩
          case round =>
            obtain ⟨k, hk, rfl, rfl, rfl, hbr⟩ := hrel
            by_cases hkl : k < H
            · have hki : (k : Int) < (H : Int) := by omega
              have hkw : IntKind.i64.wrap ((k : Int) + 1) = (k : Int) + 1 := wrap_nj _ (by omega) (by omega)
              have q1 := (HM5.out.below hbr).look (v := (Y : Int)) (t := (k : Int)) (wi_small (by omega) (by omega)) (wi_small (by omega) (by omega))
              have HSu : Hid (fsF M5 (Y : Int) (k + 1) = match M5 (Y : Int) (k : Int) with | none => fsF M5 (Y : Int) k | some z => if (k : Int) + z.1 < (fsF M5 (Y : Int) k).1 then ((k : Int) + z.1, -z.1) else fsF M5 (Y : Int) k) := rfl
              have HBk : Hid (∀ o N, Below w5.heap.size w5 ((wr.alloc o).drewN N)) := fun o N => below_drewN (hbr.alloc hbr.size o) N
              have HBk0 : Hid (∀ o, Below w5.heap.size w5 (wr.alloc o)) := fun o => hbr.alloc hbr.size o
              generalize fsF M5 (Y : Int) k = fk at *
              obtain ⟨x0, y0⟩ := fk
              clear hbr
              cases hz : M5 (Y : Int) (k : Int) with
              | none =>
                rw [hz] at q1 HSu
                simp only [keyV, Option.getD_none, encV_mk, Option.isSome_none] at q1
                simp only at HSu ⊢
                clear hz
                go_wp2
                go_roundw
                case rel => exact ⟨k + 1, by omega, by go_num, by rw [HSu.out], by rw [HSu.out], HBk0.out _⟩
                case measure => simp [intOf]; omega
              | some z =>
                obtain ⟨q, E2, d2, a2, e2, ar2, c2⟩ := z
                have hqr := HR5.out (k : Int) _ hz
                rw [hz] at q1 HSu
                simp only [keyV, Option.getD_some, encV_mk, Option.isSome_some] at q1
                simp only at HSu hqr ⊢
                have hw2 : IntKind.i64.wrap ((k : Int) + q) = (k : Int) + q := wrap_nj _ (by omega) (by omega)
                have hw3 : IntKind.i64.wrap (-q) = -q := wrap_nj _ (by omega) (by omega)
                obtain ⟨wa, hwa⟩ : ∃ x, x = wr.alloc (.cells #[.int .i64 q, .int .i64 E2, .int .i64 d2, .int .i64 a2, .int .i64 e2, .int .i64 ar2, .int .i64 c2] 68) := ⟨_, rfl⟩
                have v0 : wa.cell? ⟨wr.heap.size, 0, none⟩ = some (.int .i64 q) := by rw [hwa]; exact new_cell rfl rfl
                have HBa : Hid (∀ N, Below w5.heap.size w5 (wa.drewN N)) := fun N => by rw [hwa]; exact HBk.out _ N
                have HBb : Hid (Below w5.heap.size w5 wa) := by rw [hwa]; exact HBk0.out _
                have hwas := hwa.symm
                clear hwa hz HBk HBk0
                by_cases hl : (k : Int) + q < x0
                · have HS2 : Hid (fsF M5 (Y : Int) (k + 1) = ((k : Int) + q, -q)) := by show _ = _; rw [HSu.out, if_pos hl]
                  clear HSu
                  go_wp2_with fail
                  go_quiet (fail)
                  clear v0
                  go_wp2
                  go_roundw
                  case rel => exact ⟨k + 1, by omega, by go_num, by rw [HS2.out], by rw [HS2.out], HBa.out _⟩
                  case measure => simp [intOf]; omega
                · have HS2 : Hid (fsF M5 (Y : Int) (k + 1) = (x0, y0)) := by show _ = _; rw [HSu.out, if_neg hl]
                  clear HSu
                  go_wp2
                  go_roundw
                  case rel => exact ⟨k + 1, by omega, by go_num, by rw [HS2.out], by rw [HS2.out], HBb.out⟩
                  case measure => simp [intOf]; omega
            · have hke : H = k := by omega
              subst hke
              have HbF : Hid (Below w.heap.size w wr) := HB5.out.trans (hbr.mono HB5.out.size)
              clear hbr
              generalize fsF M5 (Y : Int) H = fk at *
              obtain ⟨x0, y0⟩ := fk
              simp only at HA1 HA2 ⊢
              by_cases hx : x0 = 1099511627776
              · have HX := hideg (HY.out _ _ _ (HA1.out hx))
                have dx : (x0 == 1099511627776) = true := by simpa using hx
                clear HA1 HA2 HY
                go_wp2
                (try simp only [Exit.inBlock, Exit.then]); refine bodyPost_ret (results_tmp3j rfl _ _ _) rfl ?_
                exact ⟨_, _, _, rfl, HX.out, HbF.out⟩
              · have HX := hideg (HY.out _ _ _ (HA2.out hx))
                have dx : (x0 == 1099511627776) = false := by simpa using hx
                clear HA1 HA2 HY
                go_wp2
                (try simp only [Exit.inBlock, Exit.then]); refine bodyPost_ret (results_tmp3j rfl _ _ _) rfl ?_
                exact ⟨_, _, _, rfl, HX.out, HbF.out⟩

end Go.Proofs.Ytkgbgkcbflicmac

namespace Go.Proofs.Ytkgbgkcbflicmac

theorem fastE_chk {g : Gr} {v q d a e : Int} (h : FastE g v q d a e) (h0 : gChk g ≠ 0) : d = 0 ∧ a = 0 ∧ e = gChk g := by
  rcases h with ⟨_, h1, h2, h3⟩ | ⟨h1, _⟩ | ⟨h1, _⟩
  · exact ⟨h2, h3, h1⟩
  · exact absurd h1 h0
  · exact absurd h1 h0
theorem fastE_out {g : Gr} {v q d a e : Int} (h : FastE g v q d a e) (h0 : gChk g = 0) (hn : ¬ ((0 ≤ v ∧ v < (g.lives.length : Int)) ∧ 0 ≤ q ∧ q < (g.lives.length : Int))) : d = 0 ∧ a = 0 ∧ e = 4 := by
  rcases h with ⟨h1, _⟩ | ⟨_, _, h1, h2, h3⟩ | ⟨_, h1, _⟩
  · exact absurd h0 h1
  · exact ⟨h2, h3, h1⟩
  · exact absurd h1 hn
theorem fastE_in {g : Gr} {v q d a e : Int} (h : FastE g v q d a e) (h0 : gChk g = 0) (hn : (0 ≤ v ∧ v < (g.lives.length : Int)) ∧ 0 ≤ q ∧ q < (g.lives.length : Int)) : FastIs g v q d a e := by
  rcases h with ⟨h1, _⟩ | ⟨_, h1, _⟩ | ⟨_, _, h1⟩
  · exact absurd h0 h1
  · exact absurd hn h1
  · exact h1
theorem leastE_ok {g : Gr} {pr : Ri → Int} {v t : Int} {L : List Int} (h : LeastE g pr v t L) (h0 : placeE g v t = 0) : LeastIs g pr v t L := by
  rcases h with ⟨h1, _⟩ | ⟨_, h1⟩
  · exact absurd h0 h1
  · exact h1
theorem leastE_bad {g : Gr} {pr : Ri → Int} {v t : Int} {L : List Int} (h : LeastE g pr v t L) (h0 : placeE g v t ≠ 0) : L = [] := by
  rcases h with ⟨_, h1⟩ | ⟨h1, _⟩
  · exact h1
  · exact absurd h1 h0


end Go.Proofs.Ytkgbgkcbflicmac

namespace Go.Proofs.Ytkgbgkcbflicmac
open Go.RowKit

theorem Try.infoInts : (Try.prog.info? 28).map (fun i => (i.zero, i.size, i.bytes)) = some (some (.slice none 0 0), 1, 24) := by kernel_rfl

/-- the block of row v -/
def bk (bl : List (Nat × Nat)) (v : Nat) : Nat := (bl.getD v (0, 0)).1
def ck (bl : List (Nat × Nat)) (v : Nat) : Nat := (bl.getD v (0, 0)).2
/-- the slices of some rows -/
def sls (h : Nat) (bl : List (Nat × Nat)) : List Value := bl.map fun p => .slice (some ⟨p.1, 0, none⟩) h p.2
theorem sls_len (h : Nat) (bl : List (Nat × Nat)) : (sls h bl).length = bl.length := by simp [sls]
theorem sls_snoc (h : Nat) (bl : List (Nat × Nat)) (p : Nat × Nat) : sls h (bl ++ [p]) = sls h bl ++ [.slice (some ⟨p.1, 0, none⟩) h p.2] := by simp [sls]
theorem sls_get (h : Nat) (bl : List (Nat × Nat)) (v : Nat) (hv : v < bl.length) : (sls h bl)[v]? = some (.slice (some ⟨bk bl v, 0, none⟩) h (ck bl v)) := by
  simp [sls, bk, ck, List.getD_eq_getElem?_getD, hv]

/-- a table in memory -/
structure TabM (W : World) (base go : Nat) (bl : List (Nat × Nat)) (h : Nat) (T : Tb) : Prop where
  out : ∀ v, v < bl.length → W.cell? ⟨go, v, none⟩ = some (.slice (some ⟨bk bl v, 0, none⟩) h (ck bl v))
  inn : ∀ v, v < bl.length → Zo W base (bk bl v) h (ck bl v) (T.getD v [])
  lt : go < W.heap.size
theorem TabM.below {W W' : World} {base go : Nat} {bl : List (Nat × Nat)} {h : Nat} {T : Tb} (M : TabM W base go bl h T) (hb : Below W.heap.size W W') : TabM W' base go bl h T :=
  ⟨fun v hv => (hb.cell (p := ⟨go, v, none⟩) M.lt).trans (M.out v hv), fun v hv => (M.inn v hv).below hb, Nat.lt_of_lt_of_le M.lt hb.size⟩
theorem TabM.kept {W W' : World} {base go : Nat} {bl : List (Nat × Nat)} {h : Nat} {T : Tb} {g : Nat} (M : TabM W base go bl h T) (hg : W.grownBy W' (some g)) (h1 : go ≠ g) (h2 : ∀ v, v < bl.length → bk bl v ≠ g) : TabM W' base go bl h T :=
  ⟨fun v hv => (hg.cell_far ⟨go, v, none⟩ M.lt (fun e => h1 (Option.some.inj e))).trans (M.out v hv), fun v hv => World.ownsRow.kept (M.inn v hv) hg (.inr (fun e => h2 v hv (Option.some.inj e))), Nat.lt_of_lt_of_le M.lt hg.size⟩
theorem TabM.cell {W : World} {base go : Nat} {bl : List (Nat × Nat)} {h : Nat} {T : Tb} (M : TabM W base go bl h T) {v t : Nat} (hv : v < bl.length) (ht : t < h) : W.cell? ⟨bk bl v, t, none⟩ = some (.int .i64 (tat T v t)) := (M.inn v hv).cell ht
theorem TabM.set {W : World} {base go : Nat} {bl : List (Nat × Nat)} {h : Nat} {T : Tb} (M : TabM W base go bl h T) {v t : Nat} (hv : v < bl.length) (hT : T.length = bl.length) (m : Int) (h1 : go ≠ bk bl v) (h2 : ∀ v', v' < bl.length → v' ≠ v → bk bl v' ≠ bk bl v) : TabM (W.setCell ⟨bk bl v, t, none⟩ (.int .i64 m)) base go bl h (tset T v t m) := by
  have hg := gby_set W (bk bl v) t (.int .i64 m)
  refine ⟨fun v' hv' => (hg.cell_far ⟨go, v', none⟩ M.lt (fun e => h1 (Option.some.inj e))).trans (M.out v' hv'), fun v' hv' => ?_, Nat.lt_of_lt_of_le M.lt hg.size⟩
  unfold tset
  rw [getD_set_row _ _ _ _ (by rw [hT]; exact hv)]
  by_cases e : v' = v
  · subst e
    rw [if_pos rfl]
    exact (M.inn v' hv').set t m
  · rw [if_neg e]
    exact World.ownsRow.kept (M.inn v' hv') hg (.inr (fun e' => h2 v' hv' e (Option.some.inj e')))

/-- which rows are apart -/
structure Dis (n goC goH : Nat) (bc bh : List (Nat × Nat)) : Prop where
  lc : bc.length = n
  lh : bh.length = n
  cc : ∀ v v', v < n → v' < n → v' ≠ v → bk bc v' ≠ bk bc v
  hh : ∀ v v', v < n → v' < n → v' ≠ v → bk bh v' ≠ bk bh v
  ch : ∀ v v', v < n → v' < n → bk bc v ≠ bk bh v'
  gc : ∀ v, v < n → goC ≠ bk bc v ∧ goH ≠ bk bc v
  gh : ∀ v, v < n → goC ≠ bk bh v ∧ goH ≠ bk bh v
/-- the state of Sums: both tables, and whether something has turned -/
structure SS (w1 : World) (n h goC goH : Nat) (bc bh : List (Nat × Nat)) (Bm : Nat) (X Y : Tb) (ch : Bool) (W : World) : Prop where
  c : TabM W w1.heap.size goC bc h X
  y : TabM W w1.heap.size goH bh h Y
  m : W.heap[Bm]? = some (.cells #[.bool ch] 4 (0, 0))
  far : goC ≠ Bm ∧ goH ≠ Bm ∧ ∀ v, v < n → bk bc v ≠ Bm ∧ bk bh v ≠ Bm
  bel : Below w1.heap.size w1 W
  ge : w1.heap.size ≤ Bm
theorem SS.lt {w1 : World} {n h goC goH : Nat} {bc bh : List (Nat × Nat)} {Bm : Nat} {X Y : Tb} {ch : Bool} {W : World} (S : SS w1 n h goC goH bc bh Bm X Y ch W) : Bm < W.heap.size := (Array.getElem?_eq_some_iff.1 S.m).1
theorem SS.below {w1 : World} {n h goC goH : Nat} {bc bh : List (Nat × Nat)} {Bm : Nat} {X Y : Tb} {ch : Bool} {W W' : World} (S : SS w1 n h goC goH bc bh Bm X Y ch W) (hb : Below W.heap.size W W') : SS w1 n h goC goH bc bh Bm X Y ch W' :=
  ⟨S.c.below hb, S.y.below hb, by rw [hb.block Bm S.lt]; exact S.m, S.far, S.bel.trans (hb.mono S.bel.size), S.ge⟩
/-- what the closure leaves -/
def putW (W : World) (b t Bm : Nat) (m x : Int) : World := if m < x then (W.setCell ⟨b, t, none⟩ (.int .i64 m)).setCell ⟨Bm, 0, none⟩ (.bool true) else W
theorem SS.putC {w1 : World} {n h goC goH : Nat} {bc bh : List (Nat × Nat)} {Bm : Nat} {X Y : Tb} {ch : Bool} {W : World} (S : SS w1 n h goC goH bc bh Bm X Y ch W) (D : Dis n goC goH bc bh) (hX : X.length = n) {v t : Nat} (hv : v < n) (m : Int) (hge : w1.heap.size ≤ bk bc v) :
    SS w1 n h goC goH bc bh Bm (putT X v t m) Y (ch || decide (m < tat X v t)) (putW W (bk bc v) t Bm m (tat X v t)) := by
  unfold putT putW
  by_cases hm : m < tat X v t
  · rw [if_pos hm, if_pos hm, show decide (m < tat X v t) = true from by simpa using hm, Bool.or_true]
    have f := S.far
    have hc1 := S.c.set (t := t) (v := v) (by rw [D.lc]; exact hv) (by rw [D.lc]; exact hX) m (D.gc v hv).1 (fun v' hv' hne => D.cc v v' hv (by rw [← D.lc]; exact hv') hne)
    have hy1 := S.y.kept (gby_set W (bk bc v) t (.int .i64 m)) (D.gc v hv).2 (fun v' hv' => (D.ch v v' hv (by rw [← D.lh]; exact hv')).symm)
    have hm1 : (W.setCell ⟨bk bc v, t, none⟩ (.int .i64 m)).heap[Bm]? = some (.cells #[.bool ch] 4 (0, 0)) := by rw [heap_setCell_other W _ Bm _ (fun e => (f.2.2 v hv).1 e.symm)]; exact S.m
    have g2 := gby_set (W.setCell ⟨bk bc v, t, none⟩ (.int .i64 m)) Bm 0 (.bool true)
    refine ⟨hc1.kept g2 f.1 (fun v' hv' => (f.2.2 v' (by rw [← D.lc]; exact hv')).1), hy1.kept g2 f.2.1 (fun v' hv' => (f.2.2 v' (by rw [← D.lh]; exact hv')).2), heap_setCell_same _ Bm 0 _ _ (.bool true) hm1, f, (S.bel.setCell (p := ⟨bk bc v, t, none⟩) hge _).setCell (p := ⟨Bm, 0, none⟩) S.ge _, S.ge⟩
  · rw [if_neg hm, if_neg hm, show decide (m < tat X v t) = false from by simpa using hm, Bool.or_false]
    exact S
theorem SS.putH {w1 : World} {n h goC goH : Nat} {bc bh : List (Nat × Nat)} {Bm : Nat} {X Y : Tb} {ch : Bool} {W : World} (S : SS w1 n h goC goH bc bh Bm X Y ch W) (D : Dis n goC goH bc bh) (hY : Y.length = n) {v t : Nat} (hv : v < n) (m : Int) (hge : w1.heap.size ≤ bk bh v) :
    SS w1 n h goC goH bc bh Bm X (putT Y v t m) (ch || decide (m < tat Y v t)) (putW W (bk bh v) t Bm m (tat Y v t)) := by
  unfold putT putW
  by_cases hm : m < tat Y v t
  · rw [if_pos hm, if_pos hm, show decide (m < tat Y v t) = true from by simpa using hm, Bool.or_true]
    have f := S.far
    have hy1 := S.y.set (t := t) (v := v) (by rw [D.lh]; exact hv) (by rw [D.lh]; exact hY) m (D.gh v hv).2 (fun v' hv' hne => D.hh v v' hv (by rw [← D.lh]; exact hv') hne)
    have hc1 := S.c.kept (gby_set W (bk bh v) t (.int .i64 m)) (D.gh v hv).1 (fun v' hv' => D.ch v' v (by rw [← D.lc]; exact hv') hv)
    have hm1 : (W.setCell ⟨bk bh v, t, none⟩ (.int .i64 m)).heap[Bm]? = some (.cells #[.bool ch] 4 (0, 0)) := by rw [heap_setCell_other W _ Bm _ (fun e => (f.2.2 v hv).2 e.symm)]; exact S.m
    have g2 := gby_set (W.setCell ⟨bk bh v, t, none⟩ (.int .i64 m)) Bm 0 (.bool true)
    refine ⟨hc1.kept g2 f.1 (fun v' hv' => (f.2.2 v' (by rw [← D.lc]; exact hv')).1), hy1.kept g2 f.2.1 (fun v' hv' => (f.2.2 v' (by rw [← D.lh]; exact hv')).2), heap_setCell_same _ Bm 0 _ _ (.bool true) hm1, f, (S.bel.setCell (p := ⟨bk bh v, t, none⟩) hge _).setCell (p := ⟨Bm, 0, none⟩) S.ge _, S.ge⟩
  · rw [if_neg hm, if_neg hm, show decide (m < tat Y v t) = false from by simpa using hm, Bool.or_false]
    exact S

set_option maxRecDepth 100000 in
set_option maxHeartbeats 2000000 in
theorem sums1_any (base go cap : Nat) (bl : List (Nat × Nat)) (h : Nat) (T : Tb) (v t : Nat) (m : Int) (Bm : Nat) (ch : Bool) (w : World) (M : TabM w base go bl h T) (hv : v < bl.length) (ht : t < h) (hm : w.heap[Bm]? = some (.cells #[.bool ch] 4 (0, 0))) (hne : bk bl v ≠ Bm) :
    Calls Try.prog 22 #[.slice (some ⟨go, 0, none⟩) bl.length cap, .int .i64 v, .int .i64 t, .int .i64 m, .pointer (some ⟨Bm, 0, none⟩)] w fun e w' => e = .returned (.tuple #[]) ∧ w' = putW w (bk bl v) t Bm m (tat T v t) := by
  have c0 := M.out v hv
  have c1 := M.cell hv ht
  have fz := World.ownsRow.frozenAt (M.inn v hv) t
  have fm : (w.setCell ⟨bk bl v, t, none⟩ (.int .i64 m)).frozen? ⟨Bm, 0, none⟩ = false := by rw [World.frozen?_setCell]; exact frozen_of_row w Bm 0 _ _ hm
  have cm : (w.setCell ⟨bk bl v, t, none⟩ (.int .i64 m)).cell? ⟨Bm, 0, none⟩ = some (.bool ch) := by
    rw [World.cell?_of_block (w := w) (a := ⟨Bm, 0, none⟩) (heap_setCell_other w ⟨bk bl v, t, none⟩ Bm _ (fun e => hne e.symm))]
    exact cell_of_row w Bm 0 _ _ (0, 0) hm
  have i1 : (v : Int) < (bl.length : Int) := by omega
  have i2 : (0 : Int) ≤ (v : Int) := by omega
  have i3 : (t : Int) < (h : Int) := by omega
  have i4 : (0 : Int) ≤ (t : Int) := by omega
  clear M hm
  generalize bk bl v = b at *
  generalize ck bl v = c at *
  generalize tat T v t = x at *
  by_cases hlt : m < x
  · have HP : Hid (putW w b t Bm m x = (w.setCell ⟨b, t, none⟩ (.int .i64 m)).setCell ⟨Bm, 0, none⟩ (.bool true)) := by show _ = _; unfold putW; rw [if_pos hlt]
    have d1 : decide (m < x) = true := by simpa using hlt
    clear hlt
    go_enter Try.func22, Try.ntmps22
    go_wp2
    go_end0
    exact ⟨rfl, HP.out.symm⟩
  · have HP : Hid (putW w b t Bm m x = w) := by show _ = _; unfold putW; rw [if_neg hlt]
    have d1 : decide (m < x) = false := by simpa using hlt
    clear hlt
    go_enter Try.func22, Try.ntmps22
    go_wp2
    go_end0
    exact ⟨rfl, HP.out.symm⟩

end Go.Proofs.Ytkgbgkcbflicmac

namespace Go.Proofs.Ytkgbgkcbflicmac
open Go.RowKit

/-- a row in which nothing is told -/
def infR (k : Nat) : List Int := List.replicate k 1099511627776
theorem infR_len (k : Nat) : (infR k).length = k := by simp [infR]
theorem infR_succ (k : Nat) : (infR (k + 1)).map (Value.int .i64) = (infR k).map (Value.int .i64) ++ [.int .i64 1099511627776] := by
  unfold infR; rw [List.replicate_succ', List.map_append]; rfl
/-- rows of other types lie apart -/
theorem su_apart {W : World} {base e size base' e' size' n n' : Nat} {v v' : Value} {xs xs' : List Value} (h : W.ownsRow base e size v n xs) (h' : W.ownsRow base' e' size' v' n' xs') (he : e ≠ e') : v.ownBlock = none ∨ v.ownBlock ≠ v'.ownBlock := by
  rcases h.2 with ⟨rfl, _⟩ | ⟨g, cap, cur, rfl, _, hh, _⟩
  · exact .inl rfl
  · right
    intro e
    rcases h'.2 with ⟨rfl, _⟩ | ⟨g', cap', cur', rfl, _, hh', _⟩
    · cases e
    · have : g = g' := Option.some.inj e
      subst this
      rw [hh] at hh'
      simp only [Option.some.injEq, Obj.cells.injEq] at hh'
      exact he hh'.2.1
theorem zo_kept {W W' : World} {base g n cap : Nat} {x : List Int} {base' size n' : Nat} {v : Value} {xs : List Value} (h : Zo W base g n cap x) (h' : W.ownsRow base' 28 size v n' xs) (hg : W.grownBy W' v.ownBlock) : Zo W' base g n cap x :=
  World.ownsRow.kept h hg (su_apart h h' (by decide))

structure Hf (w1 : World) (h : Nat) (uc uh : Value) (bc bh : List (Nat × Nat)) (kc kh : Nat) (W : World) : Prop where
  lc : bc.length = kc
  lh : bh.length = kh
  oc : W.ownsRow w1.heap.size 28 1 uc kc (sls h bc)
  oh : W.ownsRow w1.heap.size 28 1 uh kh (sls h bh)
  ap : uc.ownBlock = none ∨ uh.ownBlock = none ∨ uc.ownBlock ≠ uh.ownBlock
  ic : ∀ p ∈ bc, Zo W w1.heap.size p.1 h p.2 (infR h)
  ih : ∀ p ∈ bh, Zo W w1.heap.size p.1 h p.2 (infR h)
  nd : (bc.map Prod.fst ++ bh.map Prod.fst).Nodup
  bel : Below w1.heap.size w1 W
theorem hf_start (w1 : World) (h : Nat) : Hf w1 h (.slice none 0 0) (.slice none 0 0) [] [] 0 0 w1 :=
  ⟨rfl, rfl, World.ownsRow_nil _ _ _ _, World.ownsRow_nil _ _ _ _, .inl rfl, by simp, by simp, by simp, Below.refl _ _⟩
theorem Hf.below {w1 W W' : World} {h : Nat} {uc uh : Value} {bc bh : List (Nat × Nat)} {kc kh : Nat} (F : Hf w1 h uc uh bc bh kc kh W) (hb : Below W.heap.size W W') : Hf w1 h uc uh bc bh kc kh W' :=
  ⟨F.lc, F.lh, ownsRow_below F.oc hb, ownsRow_below F.oh hb, F.ap, fun p hp => (F.ic p hp).below hb, fun p hp => (F.ih p hp).below hb, F.nd, F.bel.trans (hb.mono F.bel.size)⟩
/-- the blocks of the rows are old -/
theorem Hf.old {w1 W : World} {h : Nat} {uc uh : Value} {bc bh : List (Nat × Nat)} {kc kh : Nat} (F : Hf w1 h uc uh bc bh kc kh W) : ∀ g ∈ bc.map Prod.fst ++ bh.map Prod.fst, g < W.heap.size := by
  intro g hg
  rw [List.mem_append, List.mem_map, List.mem_map] at hg
  rcases hg with ⟨p, hp, rfl⟩ | ⟨p, hp, rfl⟩
  · exact (World.ownsRow.lt (F.ic p hp) p.1 rfl).2
  · exact (World.ownsRow.lt (F.ih p hp) p.1 rfl).2
theorem Hf.appC {w1 W w' : World} {h : Nat} {uc uh uc' : Value} {bc bh : List (Nat × Nat)} {kc kh ga ca : Nat} {o : Obj} (F : Hf w1 h uc uh bc bh kc kh W) (ha : Zo W w1.heap.size ga h ca (infR h)) (hga : ga ∉ bc.map Prod.fst ++ bh.map Prod.fst)
    (h1 : w'.ownsRow w1.heap.size 28 1 uc' (kc + 1) (sls h bc ++ [.slice (some ⟨ga, 0, none⟩) h ca])) (hg : (W.alloc o).grownBy w' uc.ownBlock) (hat : uc'.ownBlock = uc.ownBlock ∨ uc'.ownBlock = some (W.alloc o).heap.size) :
    Hf w1 h uc' uh (bc ++ [(ga, ca)]) bh (kc + 1) kh w' := by
  have FA := F.below (pal W o)
  have haA := ha.below (pal W o)
  refine ⟨by rw [List.length_append, F.lc]; rfl, F.lh, by rw [sls_snoc]; exact h1, ?_, ?_, ?_, ?_, ?_, ?_⟩
  · refine FA.oh.kept hg ?_
    rcases F.ap with e | e | e
    · rw [e]; cases hu : uh.ownBlock with
      | none => exact .inl rfl
      | some k => right; intro h; cases h
    · exact .inl e
    · exact .inr (fun h => e h.symm)
  · rcases hat with e | e
    · rw [e]; exact F.ap
    · rw [e]
      right; right
      intro h
      have := (FA.oh.lt _ h.symm).2
      omega
  · intro p hp
    rw [List.mem_append, List.mem_singleton] at hp
    rcases hp with hp | rfl
    · exact zo_kept (FA.ic p hp) FA.oc hg
    · exact zo_kept haA FA.oc hg
  · intro p hp; exact zo_kept (FA.ih p hp) FA.oc hg
  · have := F.nd
    rw [List.map_append]
    simp only [List.map_cons, List.map_nil]
    rw [List.append_assoc, List.nodup_append] at *
    simp only [List.mem_append, not_or] at hga
    refine ⟨this.1, ?_, ?_⟩
    · rw [List.singleton_append, List.nodup_cons]; exact ⟨hga.2, this.2.1⟩
    · intro x hx b hb
      rw [List.singleton_append, List.mem_cons] at hb
      rcases hb with rfl | hb
      · intro e; subst e; exact hga.1 hx
      · exact this.2.2 x hx b hb
  · exact FA.bel.grown hg (by have := F.bel.size; simp; omega) (fun j hj => (FA.oc.lt j hj).1)
theorem Hf.appH {w1 W w' : World} {h : Nat} {uc uh uh' : Value} {bc bh : List (Nat × Nat)} {kc kh ga ca : Nat} {o : Obj} (F : Hf w1 h uc uh bc bh kc kh W) (ha : Zo W w1.heap.size ga h ca (infR h)) (hga : ga ∉ bc.map Prod.fst ++ bh.map Prod.fst)
    (h1 : w'.ownsRow w1.heap.size 28 1 uh' (kh + 1) (sls h bh ++ [.slice (some ⟨ga, 0, none⟩) h ca])) (hg : (W.alloc o).grownBy w' uh.ownBlock) (hat : uh'.ownBlock = uh.ownBlock ∨ uh'.ownBlock = some (W.alloc o).heap.size) :
    Hf w1 h uc uh' bc (bh ++ [(ga, ca)]) kc (kh + 1) w' := by
  have FA := F.below (pal W o)
  have haA := ha.below (pal W o)
  refine ⟨F.lc, by rw [List.length_append, F.lh]; rfl, ?_, by rw [sls_snoc]; exact h1, ?_, ?_, ?_, ?_, ?_⟩
  · refine FA.oc.kept hg ?_
    rcases F.ap with e | e | e
    · exact .inl e
    · rw [e]; cases hu : uc.ownBlock with
      | none => exact .inl rfl
      | some k => right; intro h; cases h
    · exact .inr e
  · rcases hat with e | e
    · rw [e]; exact F.ap
    · rw [e]
      right; right
      intro h
      have := (FA.oc.lt _ h).2
      omega
  · intro p hp; exact zo_kept (FA.ic p hp) FA.oh hg
  · intro p hp
    rw [List.mem_append, List.mem_singleton] at hp
    rcases hp with hp | rfl
    · exact zo_kept (FA.ih p hp) FA.oh hg
    · exact zo_kept haA FA.oh hg
  · have := F.nd
    rw [List.map_append]
    simp only [List.map_cons, List.map_nil]
    rw [← List.append_assoc, List.nodup_append]
    refine ⟨this, by simp, fun x hx b hb => ?_⟩
    simp only [List.mem_singleton] at hb
    subst hb
    intro e; subst e; exact hga hx
  · exact FA.bel.grown hg (by have := F.bel.size; simp; omega) (fun j hj => (FA.oh.lt j hj).1)
/-- the tables, when all rows are made -/
def infT (n h : Nat) : Tb := List.replicate n (infR h)
theorem infT_shp (n h : Nat) : Shp n h (infT n h) := ⟨by simp [infT], fun v hv => by simp [infT, List.getD_eq_getElem?_getD, hv, infR]⟩
theorem infT_row (n h v : Nat) (hv : v < n) : (infT n h).getD v [] = infR h := by simp [infT, List.getD_eq_getElem?_getD, hv]
theorem infT_at (n h v t : Nat) (hv : v < n) (ht : t < h) : tat (infT n h) v t = 1099511627776 := by unfold tat; rw [infT_row n h v hv]; simp [infR, List.getD_eq_getElem?_getD, ht]
theorem hf_tab {w1 W : World} {h n goC cC goH cH : Nat} {bc bh : List (Nat × Nat)} (F : Hf w1 h (.slice (some ⟨goC, 0, none⟩) n cC) (.slice (some ⟨goH, 0, none⟩) n cH) bc bh n n W) : TabM W w1.heap.size goC bc h (infT n h) ∧ TabM W w1.heap.size goH bh h (infT n h) ∧ Dis n goC goH bc bh := by
  have hbk : ∀ (bl : List (Nat × Nat)) v, v < bl.length → bl.getD v (0, 0) ∈ bl := fun bl v hv => by rw [List.getD_eq_getElem?_getD, List.getElem?_eq_getElem hv]; exact List.getElem_mem hv
  have hbm : ∀ (bl : List (Nat × Nat)) v, v < bl.length → bk bl v ∈ bl.map Prod.fst := fun bl v hv => List.mem_map.2 ⟨_, hbk bl v hv, rfl⟩
  have hnd := F.nd
  rw [List.nodup_append] at hnd
  have hinj : ∀ (bl : List (Nat × Nat)), (bl.map Prod.fst).Nodup → ∀ v v', v < bl.length → v' < bl.length → v' ≠ v → bk bl v' ≠ bk bl v := by
    intro bl h v v' hv hv' hne e
    apply hne
    have e1 : (bl.map Prod.fst)[v']'(by simpa using hv') = (bl.map Prod.fst)[v]'(by simpa using hv) := by
      simp only [List.getElem_map]
      unfold bk at e
      simpa [List.getD_eq_getElem?_getD, hv, hv'] using e
    have h' := h
    unfold List.Nodup at h'
    rw [List.pairwise_iff_getElem] at h'
    rcases Nat.lt_trichotomy v' v with k | k | k
    · exact absurd e1 (h' v' v (by simpa using hv') (by simpa using hv) k)
    · exact k
    · exact absurd e1.symm (h' v v' (by simpa using hv) (by simpa using hv') k)
  refine ⟨⟨fun v hv => ?_, fun v hv => ?_, (F.oc.lt goC rfl).2⟩, ⟨fun v hv => ?_, fun v hv => ?_, (F.oh.lt goH rfl).2⟩, F.lc, F.lh, ?_, ?_, ?_, ?_, ?_⟩
  · rw [F.oc.cellAt v (by have := F.lc; omega), sls_get h bc v hv]
  · rw [infT_row n h v (by rw [← F.lc]; exact hv)]; exact F.ic _ (hbk bc v hv)
  · rw [F.oh.cellAt v (by have := F.lh; omega), sls_get h bh v hv]
  · rw [infT_row n h v (by rw [← F.lh]; exact hv)]; exact F.ih _ (hbk bh v hv)
  · exact fun v v' hv hv' => hinj bc hnd.1 v v' (by rw [F.lc]; exact hv) (by rw [F.lc]; exact hv')
  · exact fun v v' hv hv' => hinj bh hnd.2.1 v v' (by rw [F.lh]; exact hv) (by rw [F.lh]; exact hv')
  · exact fun v v' hv hv' => hnd.2.2 _ (hbm bc v (by rw [F.lc]; exact hv)) _ (hbm bh v' (by rw [F.lh]; exact hv'))
  · intro v hv
    have hz := F.ic _ (hbk bc v (by rw [F.lc]; exact hv))
    refine ⟨fun e => ?_, fun e => ?_⟩
    · rcases su_apart F.oc hz (by decide) with k | k
      · cases k
      · exact k (by show some goC = some _; rw [e]; rfl)
    · rcases su_apart F.oh hz (by decide) with k | k
      · cases k
      · exact k (by show some goH = some _; rw [e]; rfl)
  · intro v hv
    have hz := F.ih _ (hbk bh v (by rw [F.lh]; exact hv))
    refine ⟨fun e => ?_, fun e => ?_⟩
    · rcases su_apart F.oc hz (by decide) with k | k
      · cases k
      · exact k (by show some goC = some _; rw [e]; rfl)
    · rcases su_apart F.oh hz (by decide) with k | k
      · cases k
      · exact k (by show some goH = some _; rw [e]; rfl)

end Go.Proofs.Ytkgbgkcbflicmac

namespace Go.Proofs.Ytkgbgkcbflicmac
open Go.RowKit

/-- a table as it stands in memory -/
def rdT (W : World) (bl : List (Nat × Nat)) (h : Nat) : Tb := (List.range bl.length).map fun v => rdL W (bk bl v) h
theorem TabM.rd {W : World} {base go : Nat} {bl : List (Nat × Nat)} {h : Nat} {T : Tb} (M : TabM W base go bl h T) (hT : T.length = bl.length) : rdT W bl h = T := by
  apply List.ext_getElem (by simp [rdT, hT])
  intro v h1 h2
  simp only [rdT, List.getElem_map, List.getElem_range]
  rw [(M.inn v (by omega)).rd, List.getD_eq_getElem?_getD, List.getElem?_eq_getElem h2]; rfl
theorem TabM.base {W : World} {base base' go : Nat} {bl : List (Nat × Nat)} {h : Nat} {T : Tb} (M : TabM W base go bl h T) (hb : base' ≤ base) : TabM W base' go bl h T := ⟨M.out, fun v hv => owns_base2 (M.inn v hv) hb, M.lt⟩
def flagAt (W : World) (v : Value) : Nat :=
  match v with
  | .pointer (some a) => flagOf ((W.cell? a).getD (.bool false))
  | _ => 0
theorem SS.cell {w1 : World} {n h goC goH : Nat} {bc bh : List (Nat × Nat)} {Bm : Nat} {X Y : Tb} {ch : Bool} {W : World} (S : SS w1 n h goC goH bc bh Bm X Y ch W) : W.cell? ⟨Bm, 0, none⟩ = some (.bool ch) := cell_of_row W Bm 0 _ _ (0, 0) S.m
theorem SS.flag {w1 : World} {n h goC goH : Nat} {bc bh : List (Nat × Nat)} {Bm : Nat} {X Y : Tb} {ch : Bool} {W : World} (S : SS w1 n h goC goH bc bh Bm X Y ch W) : flagAt W (.pointer (some ⟨Bm, 0, none⟩)) = if ch = true then 1 else 0 := by
  simp only [flagAt]; rw [S.cell]; cases ch <;> rfl
theorem SS.frz {w1 : World} {n h goC goH : Nat} {bc bh : List (Nat × Nat)} {Bm : Nat} {X Y : Tb} {ch : Bool} {W : World} (S : SS w1 n h goC goH bc bh Bm X Y ch W) : W.frozen? ⟨Bm, 0, none⟩ = false := frozen_of_row W Bm 0 _ _ S.m
/-- nothing has turned yet -/
theorem SS.clear {w1 : World} {n h goC goH : Nat} {bc bh : List (Nat × Nat)} {Bm : Nat} {X Y : Tb} {ch : Bool} {W : World} (S : SS w1 n h goC goH bc bh Bm X Y ch W) (D : Dis n goC goH bc bh) (b : Bool) : SS w1 n h goC goH bc bh Bm X Y b (W.setCell ⟨Bm, 0, none⟩ (.bool b)) := by
  have g2 := gby_set W Bm 0 (.bool b)
  have f := S.far
  exact ⟨S.c.kept g2 f.1 (fun v' hv' => (f.2.2 v' (by rw [← D.lc]; exact hv')).1), S.y.kept g2 f.2.1 (fun v' hv' => (f.2.2 v' (by rw [← D.lh]; exact hv')).2), heap_setCell_same _ Bm 0 _ _ (.bool b) S.m, f, S.bel.setCell (p := ⟨Bm, 0, none⟩) S.ge _, S.ge⟩
/-- the flag in a new box -/
theorem ss_box {w1 W : World} {n h goC goH : Nat} {bc bh : List (Nat × Nat)} {X Y : Tb} (hc : TabM W w1.heap.size goC bc h X) (hy : TabM W w1.heap.size goH bh h Y) (D : Dis n goC goH bc bh) (hb : Below w1.heap.size w1 W) (b : Bool) : SS w1 n h goC goH bc bh W.heap.size X Y b (W.alloc (.cells #[.bool b] 4)) := by
  refine ⟨hc.below (pal _ _), hy.below (pal _ _), heap_alloc_new W _, ⟨?_, ?_, fun v hv => ⟨?_, ?_⟩⟩, hb.alloc hb.size _, hb.size⟩
  · have := hc.lt; omega
  · have := hy.lt; omega
  · exact Nat.ne_of_lt (World.ownsRow.lt (hc.inn v (by rw [D.lc]; exact hv)) _ rfl).2
  · exact Nat.ne_of_lt (World.ownsRow.lt (hy.inn v (by rw [D.lh]; exact hv)) _ rfl).2

/-- a round under way: the ways dC, dH are done -/
def RS (w1 : World) (n h goC goH : Nat) (bc bh : List (Nat × Nat)) (Bm : Nat) (first : Nat → Nat → Int) (aC aH : List JA) (X0 Y0 : Tb) (dC dH : List JA) (W : World) : Prop :=
  ∃ X Y cC cH, SS w1 n h goC goH bc bh Bm X Y (cC || cH) W ∧ Tn n h first aC X0 X cC dC ∧ Tn n h first aH Y0 Y cH dH ∧ Tm n h X ∧ Tm n h Y ∧ Pr n h X Y
theorem RS.below {w1 W W' : World} {n h goC goH : Nat} {bc bh : List (Nat × Nat)} {Bm : Nat} {first : Nat → Nat → Int} {aC aH : List JA} {X0 Y0 : Tb} {dC dH : List JA} (R : RS w1 n h goC goH bc bh Bm first aC aH X0 Y0 dC dH W) (hb : Below W.heap.size W W') : RS w1 n h goC goH bc bh Bm first aC aH X0 Y0 dC dH W' := by
  obtain ⟨X, Y, cC, cH, S, r⟩ := R
  exact ⟨X, Y, cC, cH, S.below hb, r⟩
theorem jmid_first {n h : Nat} {first : Nat → Nat → Int} {arcs : List JA} {T : Tb} (S : Shp n h T) (e : ∀ v t, v < n → t < h → tat T v t = first v t) : JMid n h first arcs T :=
  ⟨S, fun v t hv ht => by rw [e v t hv ht]; exact Int.le_refl _, fun y hy v t hv ht => by rw [e v t hv ht]; exact hy.le v t hv ht⟩
theorem tm_first {n h : Nat} {first : Nat → Nat → Int} {T : Tb} (e : ∀ v t, v < n → t < h → tat T v t = first v t) (hf : ∀ v t, first v t = 1099511627776 ∨ first v t = 0) : Tm n h T := by
  intro v t hv ht
  rw [e v t hv ht]
  rcases hf v t with k | k
  · exact .inl k
  · right; rw [k]; omega
theorem pr_self (n h : Nat) (T : Tb) : Pr n h T T := fun _ _ _ _ => Iff.rfl
theorem firstT_two (g : Gr) (v t : Int) (v' t' : Nat) : firstT g v t v' t' = 1099511627776 ∨ firstT g v t v' t' = 0 := by unfold firstT; split <;> simp

/-- one way more, along which nothing is told -/
theorem tn_skips {n h : Nat} {first : Nat → Nat → Int} {arcs : List JA} {x z : Tb} {ch : Bool} {done more : List JA} (T : Tn n h first arcs x z ch done) (ok : ∀ a ∈ more, JOk n h a) (hf : ∀ v t, v < n → t < h → first v t ≤ 1099511627776) (hi : ∀ a ∈ more, src z a = 1099511627776) : Tn n h first arcs x z ch (done ++ more) := by
  induction more generalizing done with
  | nil => exact tn_nil T
  | cons a more ih =>
    have := ih (done := done ++ [a]) (tn_inf T (ok a (by simp)) hf (hi a (by simp))) (fun b hb => ok b (by simp [hb])) (fun b hb => hi b (by simp [hb]))
    rw [List.append_assoc] at this
    exact this
/-- one way more, along which a number is told in each table -/
theorem ss_put {w1 W : World} {n h goC goH : Nat} {bc bh : List (Nat × Nat)} {Bm : Nat} {first : Nat → Nat → Int} {aC aH : List JA} {X0 Y0 X Y : Tb} {cC cH : Bool} {dC dH : List JA} {a b : JA}
    (S : SS w1 n h goC goH bc bh Bm X Y (cC || cH) W) (TC : Tn n h first aC X0 X cC dC) (TH : Tn n h first aH Y0 Y cH dH) (hX : Tm n h X) (hY : Tm n h Y) (hP : Pr n h X Y) (D : Dis n goC goH bc bh)
    (ha : a ∈ aC) (hb : b ∈ aH) (okC : ∀ a ∈ aC, JOk n h a) (okH : ∀ a ∈ aH, JOk n h a) (hf0 : ∀ v t, v < n → t < h → 0 ≤ first v t) (e : b.1 = a.1 ∧ b.2.1 = a.2.1 ∧ b.2.2.1 = a.2.2.1 ∧ b.2.2.2.1 = a.2.2.2.1) (hh : h ≤ 100) (hs : src X a ≠ 1099511627776)
    (hge : ∀ v, v < n → w1.heap.size ≤ bk bc v ∧ w1.heap.size ≤ bk bh v) :
    SS w1 n h goC goH bc bh Bm (putT X a.2.2.1 a.2.2.2.1 (src X a + a.2.2.2.2)) Y ((cC || cH) || decide (src X a + a.2.2.2.2 < dst X a)) (putW W (bk bc a.2.2.1) a.2.2.2.1 Bm (src X a + a.2.2.2.2) (dst X a)) ∧
    RS w1 n h goC goH bc bh Bm first aC aH X0 Y0 (dC ++ [a]) (dH ++ [b]) (putW (putW W (bk bc a.2.2.1) a.2.2.2.1 Bm (src X a + a.2.2.2.2) (dst X a)) (bk bh b.2.2.1) b.2.2.2.1 Bm (src Y b + b.2.2.2.2) (dst Y b)) := by
  have oka := okC a ha
  have okb := okH b hb
  have hsb : src Y b ≠ 1099511627776 := by
    unfold src at hs ⊢
    rw [e.1, e.2.1]
    exact fun h => hs ((hP a.1 a.2.1 oka.v oka.t).2 h)
  have S1 := S.putC D TC.mid.shp.rows (v := a.2.2.1) (t := a.2.2.2.1) oka.v' (src X a + a.2.2.2.2) (hge _ oka.v').1
  refine ⟨S1, ?_⟩
  have S2 := S1.putH D TH.mid.shp.rows (v := b.2.2.1) (t := b.2.2.2.1) okb.v' (src Y b + b.2.2.2.2) (hge _ okb.v').2
  refine ⟨_, _, _, _, ?_, tn_put TC ha okC hf0, tn_put TH hb okH hf0, (tm_put TC.mid.shp hX oka hh hs).1, (tm_put TH.mid.shp hY okb hh hsb).1, pr_put TC.mid.shp TH.mid.shp hX hY hP oka okb hh e hs⟩
  have e1 : (cC || cH || decide (src X a + a.2.2.2.2 < tat X a.2.2.1 a.2.2.2.1) || decide (src Y b + b.2.2.2.2 < tat Y b.2.2.1 b.2.2.2.1)) = ((cC || decide (src X a + a.2.2.2.2 < dst X a)) || (cH || decide (src Y b + b.2.2.2.2 < dst Y b))) := by
    unfold dst
    cases cC <;> cases cH <;> cases decide (src X a + a.2.2.2.2 < tat X a.2.2.1 a.2.2.2.1) <;> cases decide (src Y b + b.2.2.2.2 < tat Y b.2.2.1 b.2.2.2.1) <;> rfl
  rw [e1] at S2
  exact S2

/-- the second half, a while later -/
theorem ss_putB {w1 W1 : World} {n h goC goH : Nat} {bc bh : List (Nat × Nat)} {Bm : Nat} {first : Nat → Nat → Int} {aC aH : List JA} {X0 Y0 X Y : Tb} {cC cH : Bool} {dC dH : List JA} {a b : JA}
    (S1 : SS w1 n h goC goH bc bh Bm (putT X a.2.2.1 a.2.2.2.1 (src X a + a.2.2.2.2)) Y ((cC || cH) || decide (src X a + a.2.2.2.2 < dst X a)) W1) (TC : Tn n h first aC X0 X cC dC) (TH : Tn n h first aH Y0 Y cH dH) (hX : Tm n h X) (hY : Tm n h Y) (hP : Pr n h X Y) (D : Dis n goC goH bc bh)
    (ha : a ∈ aC) (hb : b ∈ aH) (okC : ∀ a ∈ aC, JOk n h a) (okH : ∀ a ∈ aH, JOk n h a) (hf0 : ∀ v t, v < n → t < h → 0 ≤ first v t) (e : b.1 = a.1 ∧ b.2.1 = a.2.1 ∧ b.2.2.1 = a.2.2.1 ∧ b.2.2.2.1 = a.2.2.2.1) (hh : h ≤ 100) (hs : src X a ≠ 1099511627776)
    (hge : ∀ v, v < n → w1.heap.size ≤ bk bc v ∧ w1.heap.size ≤ bk bh v) :
    RS w1 n h goC goH bc bh Bm first aC aH X0 Y0 (dC ++ [a]) (dH ++ [b]) (putW W1 (bk bh b.2.2.1) b.2.2.2.1 Bm (src Y b + b.2.2.2.2) (dst Y b)) := by
  have oka := okC a ha
  have okb := okH b hb
  have hsb : src Y b ≠ 1099511627776 := by
    unfold src at hs ⊢
    rw [e.1, e.2.1]
    exact fun h => hs ((hP a.1 a.2.1 oka.v oka.t).2 h)
  have S2 := S1.putH D TH.mid.shp.rows (v := b.2.2.1) (t := b.2.2.2.1) okb.v' (src Y b + b.2.2.2.2) (hge _ okb.v').2
  refine ⟨_, _, _, _, ?_, tn_put TC ha okC hf0, tn_put TH hb okH hf0, (tm_put TC.mid.shp hX oka hh hs).1, (tm_put TH.mid.shp hY okb hh hsb).1, pr_put TC.mid.shp TH.mid.shp hX hY hP oka okb hh e hs⟩
  have e1 : (cC || cH || decide (src X a + a.2.2.2.2 < dst X a) || decide (src Y b + b.2.2.2.2 < tat Y b.2.2.1 b.2.2.2.1)) = ((cC || decide (src X a + a.2.2.2.2 < dst X a)) || (cH || decide (src Y b + b.2.2.2.2 < dst Y b))) := by
    unfold dst
    cases cC <;> cases cH <;> cases decide (src X a + a.2.2.2.2 < tat X a.2.2.1 a.2.2.2.1) <;> cases decide (src Y b + b.2.2.2.2 < tat Y b.2.2.1 b.2.2.2.1) <;> rfl
  rw [e1] at S2
  exact S2
theorem putW_size (W : World) (b t Bm : Nat) (m x : Int) : W.heap.size ≤ (putW W b t Bm m x).heap.size := by
  unfold putW
  split
  · exact Nat.le_trans (gby_set W b t (.int .i64 m)).size (gby_set (W.setCell ⟨b, t, none⟩ (.int .i64 m)) Bm 0 (.bool true)).size
  · exact Nat.le_refl _
theorem putW_far (W : World) (b t Bm : Nat) (m x : Int) {B i : Nat} (h : B < W.heap.size) (e1 : B ≠ b) (e2 : B ≠ Bm) : (putW W b t Bm m x).cell? ⟨B, i, none⟩ = W.cell? ⟨B, i, none⟩ := by
  unfold putW
  split
  · have g1 := gby_set W b t (.int .i64 m)
    exact ((gby_set (W.setCell ⟨b, t, none⟩ (.int .i64 m)) Bm 0 (.bool true)).cell_far ⟨B, i, none⟩ (Nat.lt_of_lt_of_le h g1.size) (fun e => e2 (Option.some.inj e))).trans (g1.cell_far ⟨B, i, none⟩ h (fun e => e1 (Option.some.inj e)))
  · rfl

theorem waitA_no {g : Gr} {t k : Nat} (h : ¬ (((t : Int) + 1 < g.hor) ∧ aliveB ((t : Int) + 1) g.lives (k : Int) = true)) : waitA g t (k + 1) = waitA g t k ++ [] := by rw [waitA, if_neg h]
theorem waitA_yes {g : Gr} {t k : Nat} (h : ((t : Int) + 1 < g.hor) ∧ aliveB ((t : Int) + 1) g.lives (k : Int) = true) : waitA g t (k + 1) = waitA g t k ++ [(k, t, k, t + 1, 0)] := by rw [waitA, if_pos h]
theorem legA_no {g : Gr} {pr : Int → Int} {t i : Nat} (hi : i < g.edges.length) (h : lands g g.edges[i] (t : Int) = none) : legA g pr t (i + 1) = legA g pr t i ++ [] := by
  have hg : g.edges.getD i (0, 0, []) = g.edges[i] := by simp [List.getD_eq_getElem?_getD, List.getElem?_eq_getElem hi]
  rw [legA, hg, h]
theorem legA_yes {g : Gr} {pr : Int → Int} {t i : Nat} (hi : i < g.edges.length) {q : Int × Int} (h : lands g g.edges[i] (t : Int) = some q) : legA g pr t (i + 1) = legA g pr t i ++ [(g.edges[i].1.toNat, t, g.edges[i].2.1.toNat, q.1.toNat, pr q.2)] := by
  have hg : g.edges.getD i (0, 0, []) = g.edges[i] := by simp [List.getD_eq_getElem?_getD, List.getElem?_eq_getElem hi]
  rw [legA, hg, h]
/-- a way that is told of lies in all of them -/
theorem wait_mem {g : Gr} {pr : Int → Int} {t k H : Nat} (ht : t < H) (hk : k < g.lives.length) (h : ((t : Int) + 1 < g.hor) ∧ aliveB ((t : Int) + 1) g.lives (k : Int) = true) : ((k, t, k, t + 1, 0) : JA) ∈ allA g pr H := by
  refine allA_sub (k := t + 1) ht _ ?_
  rw [allA, List.mem_append, List.mem_append]
  exact .inr (.inl (waitA_sub (k := k + 1) hk _ (by rw [waitA_yes h]; simp)))
theorem leg_mem {g : Gr} {pr : Int → Int} {t i H : Nat} (ht : t < H) (hi : i < g.edges.length) {q : Int × Int} (h : lands g g.edges[i] (t : Int) = some q) : ((g.edges[i].1.toNat, t, g.edges[i].2.1.toNat, q.1.toNat, pr q.2) : JA) ∈ allA g pr H := by
  refine allA_sub (k := t + 1) ht _ ?_
  rw [allA, List.mem_append, List.mem_append]
  exact .inr (.inr (legA_sub (i := i + 1) hi _ (by rw [legA_yes hi h]; simp)))

end Go.Proofs.Ytkgbgkcbflicmac

namespace Go.Proofs.Ytkgbgkcbflicmac
open Go.RowKit

set_option maxRecDepth 100000 in
set_option maxHeartbeats 16000000 in
theorem Sums_any (g : Gr) (la ea : Option Addr) (lc ec : Nat) (v t : Int) (w : World) (hG : GAt w la ea g) (hpl : placeE g v t = 0) :
    Calls Try.prog 7 #[.agg #[.int .i64 g.hor, .slice la g.lives.length lc, .slice ea g.edges.length ec], .int .i64 v, .int .i64 t] w fun r w' => ∃ goC cC goH cH bc bh X Y, r = .returned (.tuple #[.slice (some ⟨goC, 0, none⟩) g.lives.length cC, .slice (some ⟨goH, 0, none⟩) g.lives.length cH]) ∧ TabM w' w.heap.size goC bc g.hor.toNat X ∧ TabM w' w.heap.size goH bh g.hor.toNat Y ∧ bc.length = g.lives.length ∧ bh.length = g.lives.length ∧ SumIs g v t X Y ∧ Below w.heap.size w w' := by
  obtain ⟨i0, hi, hz0, hz1, hz2⟩ := info_parts Try.infoInt
  obtain ⟨i1, hi', hy0, hy1, hy2⟩ := info_parts Try.infoInts
  obtain ⟨hg0, ⟨hv0, hv1⟩, ht0, ht1⟩ := placeE_zero hpl
  have hR := gChk_right hg0
  obtain ⟨V, rfl⟩ : ∃ V : Nat, v = (V : Int) := ⟨v.toNat, by omega⟩
  obtain ⟨T0, rfl⟩ : ∃ T0 : Nat, t = (T0 : Int) := ⟨t.toNat, by omega⟩
  obtain ⟨H, hH⟩ : ∃ H : Nat, H = g.hor.toNat := ⟨_, rfl⟩
  obtain ⟨n, hn⟩ : ∃ n : Nat, n = g.lives.length := ⟨_, rfl⟩
  have hHi : g.hor = (H : Int) := by have := hR.hor; omega
  have hH1 : 1 ≤ H ∧ H ≤ 100 := by have := hR.hor; omega
  have hn12 : n ≤ 12 := by have := hR.lvs; omega
  have hVn : V < n := by omega
  have hTH : T0 < H := by omega
  have hed := hR.eds
  obtain ⟨w1, hw1⟩ : ∃ x, x = w.alloc (.cells #[.int .i64 g.hor, .slice la g.lives.length lc, .slice ea g.edges.length ec] 25) := ⟨_, rfl⟩
  have B1 : GBox w w1 w.heap.size g la ea lc ec := by rw [hw1]; exact gbox_start w g la ea lc ec _
  have HB1 := hideg B1
  have HG := hideg hG
  have HRt := hideg hR
  have HHi := hideg hHi
  have HN := hideg hn
  have HHd := hideg hH
  have hw1s := hw1.symm
  have hbox : ∀ W, Below w1.heap.size w1 W → W.cell? ⟨w.heap.size, 0, none⟩ = some (.int .i64 (H : Int)) ∧ W.cell? ⟨w.heap.size, 1, none⟩ = some (.slice la n lc) ∧ W.cell? ⟨w.heap.size, 2, none⟩ = some (.slice ea g.edges.length ec) := fun W h => by
    have := B1.below h
    exact ⟨by rw [← hHi]; exact this.c0, by rw [hn]; exact this.c1, this.c2⟩
  have HBX := hideg hbox
  have hal0 : ∀ (vv : Nat) (tt : Int) (W : World), vv < n → Below w1.heap.size w1 W → Calls Try.prog 21 #[.agg #[.int .i64 (H : Int), .slice la n lc, .slice ea g.edges.length ec], .int .i64 vv, .int .i64 tt] W fun r w' => r = .returned (.bool (aliveB tt g.lives vv)) ∧ Below W.heap.size W w' := fun vv tt W hvv h => by
    have := Alive_any (H : Int) la ea lc g.edges.length ec g.lives vv tt W ((hG.below (B1.below h).bel).lv) (by omega) (by omega)
    rw [← hn] at this
    exact this
  have HAl := hideg hal0
  have hld0 : ∀ (ii : Nat) (tt : Int) (W : World) (hii : ii < g.edges.length), Below w1.heap.size w1 W → Calls Try.prog 23 #[.agg #[.int .i64 (H : Int), .slice la n lc, .slice ea g.edges.length ec], .int .i64 ii, .int .i64 tt] W fun r w' => r = .returned (landsV (lands g g.edges[ii] tt)) ∧ Below W.heap.size W w' := fun ii tt W hii h => by
    have := Lands_any g la ea lc ec ii tt W (hG.below (B1.below h).bel) hR hii
    rw [← hn, hHi] at this
    exact this
  have HLd := hideg hld0
  rw [← hn, ← hH]
  rw [hHi, ← hn] at hw1s
  rw [hHi]
  clear hG hpl hg0 hR hv1 ht1 hw1 B1 hHi hn hH hbox hal0 hld0
  go_enter Try.func7, Try.ntmps7
  go_wp2_with fail
  clear hw1s
  go_loopw [6, 7, 8] (fun uc uh i wr => ∃ (k : Nat) (bc bh : List (Nat × Nat)), k ≤ n ∧ i = .int .i64 k ∧ Hf w1 H uc uh bc bh k k wr) (fun _ _ i _ => n - (intOf i).toNat)
  case atStart => exact ⟨0, [], [], Nat.zero_le _, rfl, hf_start w1 H⟩
  case round =>
    obtain ⟨k, bc, bh, hk, rfl, hF⟩ := hrel
    obtain ⟨b0, b1, b2⟩ := HBX.out wr hF.bel
    by_cases hkn : k < n
    · obtain ⟨wo, hwo⟩ : ∃ x, x = wr := ⟨_, rfl⟩
      have HF := hideg hF
      rw [← hwo] at HF b0 b1 b2 ⊢
      clear hF hwo b2
      go_wp2_with fail
      go_loopw [9, 10, 11] (fun ua ub i wr => ∃ (j : Nat), j ≤ H ∧ i = .int .i64 j ∧ wr.ownsRow wo.heap.size 3 1 ua j ((infR j).map (Value.int .i64)) ∧ wr.ownsRow wo.heap.size 3 1 ub j ((infR j).map (Value.int .i64)) ∧ (ua.ownBlock = none ∨ ub.ownBlock = none ∨ ua.ownBlock ≠ ub.ownBlock) ∧ Below wo.heap.size wo wr) (fun _ _ i _ => H - (intOf i).toNat)
      case atStart => exact ⟨0, Nat.zero_le _, rfl, World.ownsRow_nil _ _ _ _, World.ownsRow_nil _ _ _ _, .inl rfl, Below.refl _ _⟩
      case round =>
        clear b0 b1
        obtain ⟨j, hj, rfl, hoa, hob, hap, hb⟩ := hrel
        have hsz := hb.size
        obtain ⟨b0, b1, _⟩ := HBX.out wr (HF.out.bel.trans (hb.mono HF.out.bel.size))
        by_cases hjH : j < H
        · have HI := hideg (infR_succ j)
          have HAP := hideg hap
          have HBb := hideg hb
          clear hap hb
          have HMid : Hid (∀ (ua' : Value) (w3 : World), (wr.alloc (.cells #[.int .i64 1099511627776] 3)).grownBy w3 u9.ownBlock → (ua'.ownBlock = u9.ownBlock ∨ ua'.ownBlock = some (wr.alloc (.cells #[.int .i64 1099511627776] 3)).heap.size) → w3.ownsRow wo.heap.size 3 1 u10 j ((infR j).map (Value.int .i64)) ∧ Below wo.heap.size wo w3 ∧ (ua'.ownBlock = none ∨ u10.ownBlock = none ∨ ua'.ownBlock ≠ u10.ownBlock)) := by
            intro ua' w3 hgr3 hat3
            refine ⟨?_, (HBb.out.alloc hsz _).grown hgr3 (by simp; omega) (fun q hq => (hoa.lt q hq).1), ?_⟩
            · refine World.ownsRow.kept (World.ownsRow.alloc (w := wr) hob _) hgr3 ?_
              rcases HAP.out with e | e | e
              · rw [e]
                cases u10.ownBlock with
                | none => exact .inl rfl
                | some q => right; intro h; cases h
              · exact .inl e
              · exact .inr (fun h => e h.symm)
            · rcases hat3 with e | e
              · rw [e]; exact HAP.out
              · right
                cases hq : u10.ownBlock with
                | none => exact .inl rfl
                | some q =>
                  right
                  rw [e]
                  intro h
                  have h2 := (hob.lt q hq).2
                  have h3 := Option.some.inj h
                  simp at h3
                  omega
          clear hob HAP
          go_wp2_with (first
            | (at_builtin; refine wpList_append_own_at _ rfl _ _ 28 rfl wo.heap.size 3 i0 (.int .i64 0) 1 8 Try.underlying28 hi hz0 hz1 hz2 rfl (by decide) u9 _ _ rfl (World.ownsRow.alloc (w := wr) hoa _) ⟨wr.heap.size, 0, none⟩ 1 1 [.int .i64 1099511627776] rfl rfl (cell_one_new _ _ _) (by intro u hu; simp at hu; subst hu; rfl) (by unfold maxLen; omega) (by omega) (by simp; omega) ?_; intro ua' w3 hoa3 hgr3 _ hat3; have HM3 := HMid.out ua' w3 hgr3 hat3; have hob3 := HM3.1; have hsz3 := HM3.2.1.size)
            | (at_builtin; revert hob3; intro hob3; refine wpList_append_own_at _ rfl _ _ 28 rfl wo.heap.size 3 i0 (.int .i64 0) 1 8 Try.underlying28 hi hz0 hz1 hz2 rfl (by decide) u10 _ _ rfl (World.ownsRow.alloc (w := w3) hob3 _) ⟨w3.heap.size, 0, none⟩ 1 1 [.int .i64 1099511627776] rfl rfl (cell_one_new _ _ _) (by intro u hu; simp at hu; subst hu; rfl) (by unfold maxLen; omega) (by omega) (by simp; omega) ?_; intro ub' w4 hob4 hgr4 _ hat4))
          have hap3 := HM3.2.2
          have hb3 := HM3.2.1
          have hoa4 : w4.ownsRow wo.heap.size 3 1 ua' (j + 1) ((infR j).map (Value.int .i64) ++ [.int .i64 1099511627776]) := by
            refine World.ownsRow.kept (World.ownsRow.alloc (w := w3) hoa3 _) hgr4 ?_
            rcases hap3 with e | e | e
            · exact .inl e
            · rw [e]
              cases ua'.ownBlock with
              | none => exact .inl rfl
              | some q => right; intro h; cases h
            · exact .inr e
          have hb4 : Below wo.heap.size wo w4 := (hb3.alloc hsz3 _).grown hgr4 (by simp; omega) (fun q hq => (hob3.lt q hq).1)
          have HAP4 : Hid (ua'.ownBlock = none ∨ ub'.ownBlock = none ∨ ua'.ownBlock ≠ ub'.ownBlock) := by
            rcases hat4 with e | e
            · rw [e]; exact hap3
            · cases hq : ua'.ownBlock with
              | none => exact .inl rfl
              | some q =>
                right; right
                rw [e]
                intro h
                have h2 := (hoa3.lt q hq).2
                have h3 := Option.some.inj h
                simp at h3
                omega
          rw [← HI.out] at hoa4 hob4
          clear hoa hoa3 hob3 hgr3 hat3 hgr4 hat4 hap3 hb3 HM3 HMid
          go_wp2
          go_roundw
          case rel => exact ⟨j + 1, by omega, by go_num, hoa4, hob4, HAP4.out, hb4⟩
          case measure => simp [intOf]; omega
        · have hje : H = j := by omega
          subst hje
          have FW := HF.out.below hb
          have hsw := FW.bel.size
          have hso := HF.out.bel.size
          rcases hoa.2 with ⟨_, h0⟩ | ⟨ga, ca, cura, e1, _⟩
          · omega
          rcases hob.2 with ⟨_, h0⟩ | ⟨gb, cb, curb, e2, _⟩
          · omega
          subst e1
          subst e2
          have hga := hoa.lt ga rfl
          have hgb := hob.lt gb rfl
          have hab : ga ≠ gb := by
            rcases hap with e | e | e
            · cases e
            · cases e
            · intro h; exact e (by rw [h]; rfl)
          have za : Zo wr w1.heap.size ga H ca (infR H) := owns_base2 hoa hso
          have zb : Zo wr w1.heap.size gb H cb (infR H) := owns_base2 hob hso
          have hna : ga ∉ bc.map Prod.fst ++ bh.map Prod.fst := fun h => by have := HF.out.old ga h; omega
          have hnb : gb ∉ bc.map Prod.fst ++ bh.map Prod.fst := fun h => by have := HF.out.old gb h; omega
          have hnb' : gb ∉ (bc ++ [(ga, ca)]).map Prod.fst ++ bh.map Prod.fst := by
            simp only [List.map_append, List.map_cons, List.map_nil, List.mem_append, List.mem_singleton, not_or] at hnb ⊢
            exact ⟨⟨hnb.1, fun h => hab h.symm⟩, hnb.2⟩
          have HMid : Hid (∀ (uc' : Value) (w3 : World), w3.ownsRow w1.heap.size 28 1 uc' (k + 1) (sls H bc ++ [.slice (some ⟨ga, 0, none⟩) H ca]) → (wr.alloc (.cells #[.slice (some ⟨ga, 0, none⟩) H ca] 28)).grownBy w3 u6.ownBlock → (uc'.ownBlock = u6.ownBlock ∨ uc'.ownBlock = some (wr.alloc (.cells #[.slice (some ⟨ga, 0, none⟩) H ca] 28)).heap.size) → Hf w1 H uc' u7 (bc ++ [(ga, ca)]) bh (k + 1) k w3 ∧ Zo w3 w1.heap.size gb H cb (infR H)) := fun uc' w3 h1 h2 h3 => ⟨FW.appC za hna h1 h2 h3, zo_kept (zb.below (pal _ _)) (ownsRow_below FW.oc (pal _ _)) h2⟩
          have HNB := hideg hnb'
          have foc := FW.oc
          clear hoa hob hap hb hga hgb hab za zb hna hnb hnb' HF
          go_wp2_with (first
            | (at_builtin; refine wpList_append_own_at _ rfl _ _ 29 rfl w1.heap.size 28 i1 (.slice none 0 0) 1 24 Try.underlying29 hi' hy0 hy1 hy2 rfl (by decide) u6 _ _ rfl (World.ownsRow.alloc (w := wr) foc _) ⟨wr.heap.size, 0, none⟩ 1 1 [.slice (some ⟨ga, 0, none⟩) H ca] rfl rfl (cell_one_new _ _ _) (by intro u hu; simp at hu; subst hu; rfl) (by unfold maxLen; omega) (by omega) (by simp; omega) ?_; intro uc' w3 hoc3 hgr3 _ hat3; have HM3 := HMid.out uc' w3 hoc3 hgr3 hat3; have foh := HM3.1.oh; have hsz3 := HM3.1.bel.size)
            | (at_builtin; revert foh; intro foh; refine wpList_append_own_at _ rfl _ _ 29 rfl w1.heap.size 28 i1 (.slice none 0 0) 1 24 Try.underlying29 hi' hy0 hy1 hy2 rfl (by decide) u7 _ _ rfl (World.ownsRow.alloc (w := w3) foh _) ⟨w3.heap.size, 0, none⟩ 1 1 [.slice (some ⟨gb, 0, none⟩) H cb] rfl rfl (cell_one_new _ _ _) (by intro u hu; simp at hu; subst hu; rfl) (by unfold maxLen; omega) (by omega) (by simp; omega) ?_; intro uh' w4 hoh4 hgr4 _ hat4))
          have F4 := HM3.1.appH HM3.2 HNB.out hoh4 hgr4 hat4
          clear foc foh hoc3 hgr3 hat3 HM3 hoh4 hgr4 hat4 HMid
          go_wp2
          go_roundw
          case rel => exact ⟨k + 1, _, _, by omega, by go_num, F4⟩
          case measure => simp [intOf]; omega
    · have hke : n = k := by omega
      subst hke
      obtain ⟨w2, hw2⟩ : ∃ x, x = wr := ⟨_, rfl⟩
      rw [← hw2] at hF b0 b1 b2 ⊢
      clear hw2
      rcases hF.oc.2 with ⟨_, h0⟩ | ⟨goC, cC, curC, e1, _⟩
      · omega
      rcases hF.oh.2 with ⟨_, h0⟩ | ⟨goH, cH, curH, e2, _⟩
      · omega
      subst e1
      subst e2
      obtain ⟨TC, TH, hD⟩ := hf_tab hF
      have hb2 := hF.bel
      have HD := hideg hD
      have HGE : Hid (∀ vv, vv < n → w1.heap.size ≤ bk bc vv ∧ w1.heap.size ≤ bk bh vv) := fun vv hvv => ⟨(World.ownsRow.lt (TC.inn vv (by rw [hD.lc]; exact hvv)) _ rfl).1, (World.ownsRow.lt (TH.inn vv (by rw [hD.lh]; exact hvv)) _ rfl).1⟩
      have HTC := hideg TC
      have HTH := hideg TH
      have hA1 := HAl.out V T0 w2 hVn hb2
      clear hF TC TH hD hk hkn
      go_wp2_with fail
      refine hA1.mono ?_
      rintro r w3 ⟨rfl, hb3⟩
      have hbb3 : Below w1.heap.size w1 w3 := hb2.trans (hb3.mono hb2.size)
      have TC3 := HTC.out.below hb3
      have TH3 := HTH.out.below hb3
      clear hA1 hb3 hb2 b0 b1 b2
      have HTC3 := hideg TC3
      have HTH3 := hideg TH3
      clear HTC HTH TC3 TH3
      cases halv : aliveB (T0 : Int) g.lives (V : Int) with
      | false =>
        have HAlv := hideg halv
        clear halv
        have hTt : ∀ v' t', v' < n → t' < H → tat (infT n H) v' t' = firstT g (V : Int) (T0 : Int) v' t' := fun v' t' h1 h2 => by
          rw [infT_at n H v' t' h1 h2]
          unfold firstT
          rw [if_neg (fun h => by have := HAlv.out; rw [h.1] at this; cases this)]
        have HSh := hideg (infT_shp n H)
        obtain ⟨X0, hX0⟩ : ∃ X, X = infT n H := ⟨_, rfl⟩
        rw [← hX0] at HTC3 HTH3 hTt HSh
        have HTt := hideg hTt
        obtain ⟨w4, hw4⟩ : ∃ x, x = w3 := ⟨_, rfl⟩
        rw [← hw4] at HTC3 HTH3 hbb3 ⊢
        clear hTt hw4 hX0
        go_wp2_with fail
        have hmf : ∀ (fn : Fn) (first cap : Array Value) (w : World), (Instr.makeFunc fn first cap).run Try.prog w = .ok (.func fn first cap) w := fun _ _ _ _ => rfl
        have eg : ∀ args w, (callFunc 22 args).run Try.prog w = .ok (.enter 22 args) w := enters_of Try.func22 (by kernel_rfl) rfl
        have HokC : Hid (∀ a ∈ allA g id H, JOk n H a) := by intro a ha; have := allA_ok HRt.out (pr := id) (fun c h0 h1 => ⟨h0, h1⟩) H (by rw [HHi.out]; omega) a ha; rw [← HN.out, ← HHd.out] at this; exact this
        have HokH : Hid (∀ a ∈ allA g (fun _ => 1) H, JOk n H a) := by intro a ha; have := allA_ok HRt.out (pr := fun _ => 1) (fun c h0 h1 => ⟨by omega, by omega⟩) H (by rw [HHi.out]; omega) a ha; rw [← HN.out, ← HHd.out] at this; exact this
        have Hf0 : Hid (∀ v' t', v' < n → t' < H → 0 ≤ firstT g (V : Int) (T0 : Int) v' t') := fun v' t' _ _ => firstT_lo g _ _ v' t'
        have Hf1 : Hid (∀ v' t', v' < n → t' < H → firstT g (V : Int) (T0 : Int) v' t' ≤ 1099511627776) := fun v' t' _ _ => firstT_hi g _ _ v' t'
        have HS0 := hideg (ss_box HTC3.out HTH3.out HD.out hbb3 true)
        have HSum : Hid (∀ X Y, JBest n H (firstT g (V : Int) (T0 : Int)) (allA g id H) X → JBest n H (firstT g (V : Int) (T0 : Int)) (allA g (fun _ => 1) H) Y → Tm n H X → Tm n H Y → Pr n H X Y → SumIs g (V : Int) (T0 : Int) X Y) := by
          intro X Y h1 h2 h3 h4 h5
          rw [HN.out, HHd.out] at h1 h2 h3 h4 h5
          exact ⟨h1, h2, h3, h4, h5⟩
        have HJ0 : Hid (∀ arcs, JMid n H (firstT g (V : Int) (T0 : Int)) arcs X0) := fun arcs => jmid_first HSh.out HTt.out
        have HT0 : Hid (Tm n H X0) := tm_first HTt.out (firstT_two g _ _)
        have HBw : Hid (∀ W, Below w1.heap.size w1 W → Below w.heap.size w W) := fun W h => (HB1.out.below h).bel
        clear hbb3 HTC3 HTH3 HSh HTt
        go_loopw [12] (fun pm wr => ∃ (Bm : Nat) (X Y : Tb) (ch : Bool), pm = .pointer (some ⟨Bm, 0, none⟩) ∧ SS w1 n H goC goH bc bh Bm X Y ch wr ∧ JMid n H (firstT g (V : Int) (T0 : Int)) (allA g id H) X ∧ JMid n H (firstT g (V : Int) (T0 : Int)) (allA g (fun _ => 1) H) Y ∧ Tm n H X ∧ Tm n H Y ∧ Pr n H X Y ∧ (ch = false → JBest n H (firstT g (V : Int) (T0 : Int)) (allA g id H) X ∧ JBest n H (firstT g (V : Int) (T0 : Int)) (allA g (fun _ => 1) H) Y)) (fun pm wr => 2 * (tsum (rdT wr bc H) + tsum (rdT wr bh H)) + flagAt wr pm)
        case atStart => exact ⟨w4.heap.size, X0, X0, true, rfl, HS0.out, HJ0.out _, HJ0.out _, HT0.out, HT0.out, pr_self n H X0, fun h => by cases h⟩
        case round =>
          clear HS0 HJ0 HT0
          obtain ⟨Bm, X, Y, ch, rfl, hS, hMX, hMY, hTX, hTY, hP, hBest⟩ := hrel
          have cm := hS.cell
          have fm := hS.frz
          cases ch with
          | false =>
            obtain ⟨bX, bY⟩ := hBest rfl
            have HR := hideg (HSum.out X Y bX bY hTX hTY hP)
            have HS := hideg hS
            clear hS hMX hMY hTX hTY hP hBest bX bY
            go_wp2
            go_ret2
            exact ⟨goC, cC, goH, cH, bc, bh, X, Y, rfl, HS.out.c.base HB1.out.bel.size, HS.out.y.base HB1.out.bel.size, HD.out.lc, HD.out.lh, HR.out, HBw.out _ HS.out.bel⟩
          | true =>
            have hS5 := hS.clear HD.out false
            have hR0 : RS w1 n H goC goH bc bh Bm (firstT g (V : Int) (T0 : Int)) (allA g id H) (allA g (fun _ => 1) H) X Y [] [] (wr.setCell ⟨Bm, 0, none⟩ (.bool false)) := ⟨X, Y, false, false, hS5, tn_start hMX, tn_start hMY, hTX, hTY, hP⟩
            have HR0 := hideg hR0
            have hmeas : 2 * (tsum (rdT wr bc H) + tsum (rdT wr bh H)) + flagAt wr (.pointer (some ⟨Bm, 0, none⟩)) = 2 * (tsum X + tsum Y) + 1 := by
              rw [hS.c.rd (by rw [hMX.shp.rows, HD.out.lc]), hS.y.rd (by rw [hMY.shp.rows, HD.out.lh]), hS.flag]; rfl
            have HMs := hideg hmeas
            clear hS hS5 hMX hMY hTX hTY hP hBest hR0 hmeas
            obtain ⟨w5, hw5⟩ : ∃ x, x = wr.setCell ⟨Bm, 0, none⟩ (.bool false) := ⟨_, rfl⟩
            rw [← hw5] at HR0
            have hw5s := hw5.symm
            clear hw5
            go_wp2_with fail
            clear hw5s
            go_loopw [14] (fun tt wr => ∃ k : Nat, k ≤ H ∧ tt = .int .i64 k ∧ RS w1 n H goC goH bc bh Bm (firstT g (V : Int) (T0 : Int)) (allA g id H) (allA g (fun _ => 1) H) X Y (allA g id k) (allA g (fun _ => 1) k) wr) (fun tt _ => H - (intOf tt).toNat)
            case atStart => exact ⟨0, Nat.zero_le _, rfl, HR0.out⟩
            case round =>
              clear HR0
              obtain ⟨k, hk, rfl, hRS⟩ := hrel
              have hbk : Below w1.heap.size w1 wr := by obtain ⟨_, _, _, _, S, _⟩ := hRS; exact S.bel
              obtain ⟨b0, b1, b2⟩ := HBX.out wr hbk
              have HRS := hideg hRS
              by_cases hkH : k < H
              · obtain ⟨wa, hwa⟩ : ∃ x, x = wr := ⟨_, rfl⟩
                rw [← hwa] at HRS b0 b1 b2 ⊢
                clear hRS hwa hbk
                have hkw : IntKind.i64.wrap ((k : Int) + 1) = (k : Int) + 1 := wrap_nr _ (by omega) (by omega)
                have HSt5 : Hid (RS w1 n H goC goH bc bh Bm (firstT g (V : Int) (T0 : Int)) (allA g id H) (allA g (fun _ => 1) H) X Y (allA g id k ++ waitA g k 0) (allA g (fun _ => 1) k ++ waitA g k 0) wa) := by
                  show RS _ _ _ _ _ _ _ _ _ _ _ _ _ _ _ _
                  rw [waitA, List.append_nil, List.append_nil]; exact HRS.out
                clear HRS
                go_wp2_with fail
                go_loopw [15] (fun vv wr => ∃ j : Nat, j ≤ n ∧ vv = .int .i64 j ∧ RS w1 n H goC goH bc bh Bm (firstT g (V : Int) (T0 : Int)) (allA g id H) (allA g (fun _ => 1) H) X Y (allA g id k ++ waitA g k j) (allA g (fun _ => 1) k ++ waitA g k j) wr) (fun vv _ => n - (intOf vv).toNat)
                case atStart => exact ⟨0, Nat.zero_le _, rfl, HSt5.out⟩
                case round =>
                  clear HSt5 b0 b1 b2
                  obtain ⟨j, hj, rfl, hRS⟩ := hrel
                  have hbk : Below w1.heap.size w1 wr := by obtain ⟨_, _, _, _, S, _⟩ := hRS; exact S.bel
                  obtain ⟨b0, b1, b2⟩ := HBX.out wr hbk
                  by_cases hjn : j < n
                  · obtain ⟨P, Q, cC', cH', hS, hTC, hTH, hTP, hTQ, hPQ⟩ := hRS
                    have c0 := hS.c.out j (by rw [HD.out.lc]; exact hjn)
                    have c1 := hS.c.cell (t := k) (by rw [HD.out.lc]; exact hjn) hkH
                    have hjl : j < g.lives.length := by rw [← HN.out]; exact hjn
                    have hji : (j : Int) < (n : Int) := by omega
                    have hki : (k : Int) < (H : Int) := by omega
                    have HS := hideg hS
                    have HTC := hideg hTC
                    have HTH := hideg hTH
                    have HTP := hideg hTP
                    have HTQ := hideg hTQ
                    have HPQ := hideg hPQ
                    clear hS hTC hTH hTP hTQ hPQ
                    by_cases hinf : tat P j k < 1099511627776
                    · have d1 : decide (tat P j k < 1099511627776) = true := by simpa using hinf
                      have hne : tat P j k ≠ 1099511627776 := by omega
                      by_cases hk1 : k + 1 < H
                      · have d2 : decide ((k : Int) + 1 < (H : Int)) = true := by simp; omega
                        have hA := HAl.out j ((k : Int) + 1) wr hjn hbk
                        cases hal : aliveB ((k : Int) + 1) g.lives (j : Int) with
                        | false =>
                          have HW := hideg (waitA_no (g := g) (t := k) (k := j) (fun h => by rw [hal] at h; cases h.2))
                          rw [hal] at hA
                          clear hal
                          go_wp2_with fail
                          refine hA.mono ?_
                          rintro r w6 ⟨rfl, hb6⟩
                          have HRn : Hid (RS w1 n H goC goH bc bh Bm (firstT g (V : Int) (T0 : Int)) (allA g id H) (allA g (fun _ => 1) H) X Y (allA g id k ++ waitA g k (j + 1)) (allA g (fun _ => 1) k ++ waitA g k (j + 1)) w6) := by
                            show RS _ _ _ _ _ _ _ _ _ _ _ _ _ _ _ _
                            rw [HW.out, List.append_nil]; exact ⟨P, Q, cC', cH', HS.out.below hb6, HTC.out, HTH.out, HTP.out, HTQ.out, HPQ.out⟩
                          clear hA hb6 c0 c1 b0 b1 b2
                          go_wp2
                          go_roundw
                          case rel => exact ⟨j + 1, by omega, by go_num, HRn.out⟩
                          case measure => simp [intOf]; omega
                        | true =>
                          have hcond : ((k : Int) + 1 < g.hor) ∧ aliveB ((k : Int) + 1) g.lives (j : Int) = true := ⟨by rw [HHi.out]; omega, hal⟩
                          have HW := hideg (waitA_yes hcond)
                          have HmC := hideg (wait_mem (pr := id) (H := H) hkH hjl hcond)
                          have HmH := hideg (wait_mem (pr := fun _ => 1) (H := H) hkH hjl hcond)
                          rw [hal] at hA
                          clear hal hcond
                          go_wp2_with fail
                          refine hA.mono ?_
                          rintro r w6 ⟨rfl, hb6⟩
                          have S6 := HS.out.below hb6
                          obtain ⟨S7, RS8⟩ := ss_put S6 HTC.out HTH.out HTP.out HTQ.out HPQ.out HD.out HmC.out HmH.out HokC.out HokH.out Hf0.out ⟨rfl, rfl, rfl, rfl⟩ hH1.2 (show src P (j, k, j, k + 1, 0) ≠ 1099511627776 from hne) HGE.out
                          simp only [src, dst, Int.add_zero] at S7 RS8
                          have hp1 := sums1_any w1.heap.size goC cC bc H P j (k + 1) (tat P j k) Bm _ w6 S6.c (by rw [HD.out.lc]; exact hjn) hk1 S6.m (S6.far.2.2 j hjn).1
                          have hp2 := sums1_any w1.heap.size goH cH bh H Q j (k + 1) (tat Q j k) Bm _ _ S7.y (by rw [HD.out.lh]; exact hjn) hk1 S7.m (S7.far.2.2 j hjn).2
                          rw [HD.out.lc, show ((k + 1 : Nat) : Int) = (k : Int) + 1 from by omega] at hp1
                          rw [HD.out.lh, show ((k + 1 : Nat) : Int) = (k : Int) + 1 from by omega] at hp2
                          have x0 := S6.c.out j (by rw [HD.out.lc]; exact hjn)
                          have x1 := S6.c.cell (t := k) (by rw [HD.out.lc]; exact hjn) hkH
                          have y0 := S7.y.out j (by rw [HD.out.lh]; exact hjn)
                          have y1 := S7.y.cell (t := k) (by rw [HD.out.lh]; exact hjn) hkH
                          have HS7 := hideg S7
                          rw [List.append_assoc, List.append_assoc, ← HW.out] at RS8
                          have HRn := hideg RS8
                          generalize putW w6 (bk bc j) (k + 1) Bm (tat P j k) (tat P j (k + 1)) = w7 at *
                          clear hA hb6 c0 c1 b0 b1 b2 S6 S7 RS8
                          go_wp2_with fail
                          go_at_fn 22
                          refine hp1.mono ?_
                          rintro r w7' ⟨rfl, hw7⟩
                          have hw7s := hw7.symm
                          subst hw7s
                          clear hw7 hp1 x0 x1
                          go_wp2_with fail
                          go_at_fn 22
                          refine hp2.mono ?_
                          rintro r w8 ⟨rfl, hw8⟩
                          rw [← hw8] at HRn
                          clear hw8 hp2 y0 y1
                          go_wp2
                          go_roundw
                          case rel => exact ⟨j + 1, by omega, by go_num, HRn.out⟩
                          case measure => simp [intOf]; omega
                      · have d2 : decide ((k : Int) + 1 < (H : Int)) = false := by simp; omega
                        have HW := hideg (waitA_no (g := g) (t := k) (k := j) (fun h => by have := h.1; rw [HHi.out] at this; omega))
                        have HRn : Hid (RS w1 n H goC goH bc bh Bm (firstT g (V : Int) (T0 : Int)) (allA g id H) (allA g (fun _ => 1) H) X Y (allA g id k ++ waitA g k (j + 1)) (allA g (fun _ => 1) k ++ waitA g k (j + 1)) wr) := by
                          show RS _ _ _ _ _ _ _ _ _ _ _ _ _ _ _ _
                          rw [HW.out, List.append_nil]; exact ⟨P, Q, cC', cH', HS.out, HTC.out, HTH.out, HTP.out, HTQ.out, HPQ.out⟩
                        go_wp2
                        go_roundw
                        case rel => exact ⟨j + 1, by omega, by go_num, HRn.out⟩
                        case measure => simp [intOf]; omega
                    · have d1 : decide (tat P j k < 1099511627776) = false := by simpa using hinf
                      have hPi : tat P j k = 1099511627776 := by rcases HTP.out j k hjn hkH with e | e; exact e; omega
                      have hQi : tat Q j k = 1099511627776 := (HPQ.out j k hjn hkH).1 hPi
                      have HRn : Hid (RS w1 n H goC goH bc bh Bm (firstT g (V : Int) (T0 : Int)) (allA g id H) (allA g (fun _ => 1) H) X Y (allA g id k ++ waitA g k (j + 1)) (allA g (fun _ => 1) k ++ waitA g k (j + 1)) wr) := by
                        show RS _ _ _ _ _ _ _ _ _ _ _ _ _ _ _ _
                        by_cases hcond : ((k : Int) + 1 < g.hor) ∧ aliveB ((k : Int) + 1) g.lives (j : Int) = true
                        · rw [waitA_yes hcond, ← List.append_assoc, ← List.append_assoc]
                          exact ⟨P, Q, cC', cH', HS.out, tn_inf HTC.out (HokC.out _ (wait_mem hkH hjl hcond)) Hf1.out hPi, tn_inf HTH.out (HokH.out _ (wait_mem hkH hjl hcond)) Hf1.out hQi, HTP.out, HTQ.out, HPQ.out⟩
                        · rw [waitA_no hcond, List.append_nil]; exact ⟨P, Q, cC', cH', HS.out, HTC.out, HTH.out, HTP.out, HTQ.out, HPQ.out⟩
                      clear hinf hPi hQi
                      go_wp2
                      go_roundw
                      case rel => exact ⟨j + 1, by omega, by go_num, HRn.out⟩
                      case measure => simp [intOf]; omega
                  · clear b0 b1 b2
                    have hje : n = j := by omega
                    subst hje
                    obtain ⟨b0, b1, b2⟩ := HBX.out wr hbk
                    have HRS := hideg hRS
                    obtain ⟨wa2, hwa2⟩ : ∃ x, x = wr := ⟨_, rfl⟩
                    rw [← hwa2] at HRS b0 b1 b2 ⊢
                    clear hRS hwa2 hbk
                    have HSt6 : Hid (RS w1 n H goC goH bc bh Bm (firstT g (V : Int) (T0 : Int)) (allA g id H) (allA g (fun _ => 1) H) X Y (allA g id k ++ (waitA g k n ++ legA g id k 0)) (allA g (fun _ => 1) k ++ (waitA g k n ++ legA g (fun _ => 1) k 0)) wa2) := by
                      show RS _ _ _ _ _ _ _ _ _ _ _ _ _ _ _ _
                      rw [legA, legA, List.append_nil]; exact HRS.out
                    clear HRS
                    go_wp2_with fail
                    go_loopw [16] (fun ii wr => ∃ i : Nat, i ≤ g.edges.length ∧ ii = .int .i64 i ∧ RS w1 n H goC goH bc bh Bm (firstT g (V : Int) (T0 : Int)) (allA g id H) (allA g (fun _ => 1) H) X Y (allA g id k ++ (waitA g k n ++ legA g id k i)) (allA g (fun _ => 1) k ++ (waitA g k n ++ legA g (fun _ => 1) k i)) wr) (fun ii _ => g.edges.length - (intOf ii).toNat)
                    case atStart => exact ⟨0, Nat.zero_le _, rfl, HSt6.out⟩
                    case round =>
                      clear HSt6 b0 b1 b2
                      obtain ⟨i, hi6, rfl, hRS⟩ := hrel
                      have hbk : Below w1.heap.size w1 wr := by obtain ⟨_, _, _, _, S, _⟩ := hRS; exact S.bel
                      obtain ⟨b0, b1, b2⟩ := HBX.out wr hbk
                      by_cases hie : i < g.edges.length
                      · rcases (HG.out.below (HB1.out.below hbk).bel).ed with h0 | ⟨eb, eo, rfl, hebr, hec⟩
                        · rw [h0] at hie; simp at hie
                        obtain ⟨c0, c1, lo, lcap, c2, _⟩ := hec i hie
                        obtain ⟨hA, hB, _⟩ := HRt.out.ends g.edges[i] (List.getElem_mem hie)
                        obtain ⟨A, eA⟩ : ∃ A : Nat, g.edges[i].1 = (A : Int) := ⟨g.edges[i].1.toNat, by omega⟩
                        obtain ⟨B, eB⟩ : ∃ A : Nat, g.edges[i].2.1 = (A : Int) := ⟨g.edges[i].2.1.toNat, by omega⟩
                        have hAn : A < n := by have := HN.out; omega
                        have hBn : B < n := by have := HN.out; omega
                        have hii : (i : Int) < (g.edges.length : Int) := by omega
                        have hAi : (A : Int) < (n : Int) := by omega
                        have hBi : (B : Int) < (n : Int) := by omega
                        have hki : (k : Int) < (H : Int) := by omega
                        rw [eA] at c0
                        rw [eB] at c1
                        generalize hll : g.edges[i].2.2.length = ll at c2
                        have gx := pal wr (.cells #[.int .i64 (A : Int), .int .i64 (B : Int), .slice lo ll lcap] 51)
                        have hL := HLd.out i (k : Int) _ hie (hbk.trans (gx.mono hbk.size))
                        have hx0 : (wr.alloc (.cells #[.int .i64 (A : Int), .int .i64 (B : Int), .slice lo ll lcap] 51)).cell? ⟨wr.heap.size, 0, none⟩ = some (.int .i64 (A : Int)) := by simp
                        have hx1 : (wr.alloc (.cells #[.int .i64 (A : Int), .int .i64 (B : Int), .slice lo ll lcap] 51)).cell? ⟨wr.heap.size, 1, none⟩ = some (.int .i64 (B : Int)) := by simp
                        have hz6 : (wr.alloc (.cells #[.int .i64 (A : Int), .int .i64 (B : Int), .slice lo ll lcap] 51)).heap.size = wr.heap.size + 1 := by simp
                        obtain ⟨z0, z1, z2⟩ := HBX.out _ (hbk.trans (gx.mono hbk.size))
                        have HZ : Hid (∀ W, Below (wr.alloc (.cells #[.int .i64 (A : Int), .int .i64 (B : Int), .slice lo ll lcap] 51)).heap.size (wr.alloc (.cells #[.int .i64 (A : Int), .int .i64 (B : Int), .slice lo ll lcap] 51)) W → Below wr.heap.size wr W ∧ W.cell? ⟨wr.heap.size, 0, none⟩ = some (.int .i64 (A : Int)) ∧ W.cell? ⟨wr.heap.size, 1, none⟩ = some (.int .i64 (B : Int)) ∧ wr.heap.size < W.heap.size) := fun W h => ⟨ptw gx h, (h.cell (p := ⟨wr.heap.size, 0, none⟩) (by simp)).trans hx0, (h.cell (p := ⟨wr.heap.size, 1, none⟩) (by simp)).trans hx1, by have := h.size; rw [hz6] at this; omega⟩
                        have HRS := hideg hRS
                        unfold landsV at hL
                        clear hec hebr hA hB gx hRS hx0 hx1 hz6 hbk
                        obtain ⟨w6, hw6⟩ : ∃ x, x = wr.alloc (.cells #[.int .i64 (A : Int), .int .i64 (B : Int), .slice lo ll lcap] 51) := ⟨_, rfl⟩
                        rw [← hw6] at hL HZ z0 z1 z2
                        have hw6s := hw6.symm
                        clear hw6
                        cases hs : lands g g.edges[i] (k : Int) with
                        | none =>
                          have HW := hideg (legA_no (pr := id) hie hs)
                          have HW' := hideg (legA_no (pr := fun _ => 1) hie hs)
                          rw [hs] at hL
                          simp only [Option.getD_none, Option.isSome_none] at hL
                          clear hs eA eB hll
                          go_wp2_with fail
                          clear hw6s
                          refine hL.mono ?_
                          rintro r w7 ⟨rfl, hb7⟩
                          have HRn : Hid (RS w1 n H goC goH bc bh Bm (firstT g (V : Int) (T0 : Int)) (allA g id H) (allA g (fun _ => 1) H) X Y (allA g id k ++ (waitA g k n ++ legA g id k (i + 1))) (allA g (fun _ => 1) k ++ (waitA g k n ++ legA g (fun _ => 1) k (i + 1))) w7) := by
                            show RS _ _ _ _ _ _ _ _ _ _ _ _ _ _ _ _
                            rw [HW.out, HW'.out, List.append_nil, List.append_nil]; exact HRS.out.below (HZ.out _ hb7).1
                          clear hL hb7 b0 b1 b2 c0 c1 c2 z0 z1 z2
                          go_wp2
                          go_roundw
                          case rel => exact ⟨i + 1, by omega, by go_num, HRn.out⟩
                          case measure => simp [intOf]; omega
                        | some q =>
                          have HW := hideg (legA_yes (pr := id) hie hs)
                          have HW' := hideg (legA_yes (pr := fun _ => 1) hie hs)
                          have HmC := hideg (leg_mem (pr := id) (H := H) hkH hie hs)
                          have HmH := hideg (leg_mem (pr := fun _ => 1) (H := H) hkH hie hs)
                          obtain ⟨to, pc⟩ := q
                          rw [hs] at hL
                          simp only [Option.getD_some, Option.isSome_some] at hL
                          clear hs
                          rw [eA, eB] at HW HW' HmC HmH
                          simp only [Int.toNat_natCast] at HW HW' HmC HmH
                          have okC := HokC.out _ HmC.out
                          have ok1 := okC.t'
                          have ok2 := okC.lt
                          have ok3 := okC.p0
                          have ok4 := okC.p1
                          simp only [id] at ok1 ok2 ok3 ok4
                          obtain ⟨T, rfl⟩ : ∃ T : Nat, to = (T : Int) := ⟨to.toNat, by omega⟩
                          simp only [Int.toNat_natCast] at HW HW' HmC HmH ok1 ok2
                          have hTi : (T : Int) < (H : Int) := by omega
                          clear okC eA eB hll
                          go_wp2_with fail
                          clear hw6s
                          refine hL.mono ?_
                          rintro r w7 ⟨rfl, hb7⟩
                          obtain ⟨hb67, y0, y1, yl⟩ := HZ.out _ hb7
                          have hfar : bk bc B < wr.heap.size ∧ Bm < wr.heap.size := by obtain ⟨_, _, _, _, S0, _⟩ := HRS.out; exact ⟨(World.ownsRow.lt (S0.c.inn B (by rw [HD.out.lc]; exact hBn)) _ rfl).2, S0.lt⟩
                          obtain ⟨P, Q, cC', cH', hS, hTC, hTH, hTP, hTQ, hPQ⟩ := HRS.out.below hb67
                          have x0 := hS.c.out A (by rw [HD.out.lc]; exact hAn)
                          have x1 := hS.c.cell (t := k) (by rw [HD.out.lc]; exact hAn) hkH
                          have HS := hideg hS
                          have HTC := hideg hTC
                          have HTH := hideg hTH
                          have HTP := hideg hTP
                          have HTQ := hideg hTQ
                          have HPQ := hideg hPQ
                          clear hS hTC hTH hTP hTQ hPQ hL hb7 b0 b1 b2 c0 c1 c2 z0 z1 z2 HZ HRS
                          by_cases hinf : tat P A k < 1099511627776
                          · have d1 : decide (tat P A k < 1099511627776) = true := by simpa using hinf
                            have hne : tat P A k ≠ 1099511627776 := by omega
                            have hPlo : 0 ≤ tat P A k ∧ tat P A k ≤ 1000 * (k : Int) := by rcases HTP.out A k hAn hkH with e | e; exact absurd e hne; exact e
                            have hQne : tat Q A k ≠ 1099511627776 := fun e => hne ((HPQ.out A k hAn hkH).2 e)
                            have hQlo : 0 ≤ tat Q A k ∧ tat Q A k ≤ 1000 * (k : Int) := by rcases HTQ.out A k hAn hkH with e | e; exact absurd e hQne; exact e
                            have hwP : IntKind.i64.wrap (tat P A k + pc) = tat P A k + pc := wrap_nr _ (by omega) (by omega)
                            have hwQ : IntKind.i64.wrap (tat Q A k + 1) = tat Q A k + 1 := wrap_nr _ (by omega) (by omega)
                            go_wp2_with fail
                            have lA := (World.ownsRow.lt (HS.out.c.inn A (by rw [HD.out.lc]; exact hAn)) _ rfl).2
                            have lgo := HS.out.c.lt
                            have hne2 : Nonempty (HeldIn w7) := ⟨⟨_, Below.refl _ _⟩⟩
                            have f0 : ∀ s : HeldIn w7, s.w.cell? ⟨wr.heap.size, 0, none⟩ = some (.int .i64 (A : Int)) := fun s => (s.h.cell (p := ⟨wr.heap.size, 0, none⟩) yl).trans y0
                            have f1 : ∀ s : HeldIn w7, s.w.cell? ⟨wr.heap.size, 1, none⟩ = some (.int .i64 (B : Int)) := fun s => (s.h.cell (p := ⟨wr.heap.size, 1, none⟩) yl).trans y1
                            have f2 := fun s : HeldIn w7 => (s.h.cell (p := ⟨goC, A, none⟩) lgo).trans x0
                            have f3 := fun s : HeldIn w7 => (s.h.cell (p := ⟨bk bc A, k, none⟩) lA).trans x1
                            refine wp_region_held_back _ (Below.refl _ _) (by kernel_rfl) (by simp) (by kernel_rfl) (by kernel_rfl) (by kernel_rfl) ?_
                            simp only [List.pop_toArray, List.dropLast, List.back!_toArray, List.getLast!]
                            repeat (go_big_quiet_step (fail))
                            refine wpQuiet_nil ?_
                            rintro _ ⟨s, rfl⟩
                            refine back_last (fun K hK => ?_)
                            go_simp
                            have S6 := HS.out.below s.h
                            have SP := S6.putC HD.out HTC.out.mid.shp.rows (v := B) (t := T) hBn (tat P A k + pc) (HGE.out B hBn).1
                            have hp1 := sums1_any w1.heap.size goC cC bc H P B T (tat P A k + pc) Bm _ s.w S6.c (by rw [HD.out.lc]; exact hBn) ok1 S6.m (S6.far.2.2 B hBn).1
                            rw [HD.out.lc] at hp1
                            have k0 := f0 s
                            have k1 := f1 s
                            have yls : wr.heap.size < s.w.heap.size := Nat.lt_of_lt_of_le yl s.h.size
                            refine hp1.mono ?_
                            rintro r w8 ⟨rfl, hw8⟩
                            refine hK.out _ _ ?_
                            have m0 : w8.cell? ⟨wr.heap.size, 0, none⟩ = some (.int .i64 (A : Int)) := by rw [hw8]; exact (putW_far _ _ _ _ _ _ yls (by omega) (by omega)).trans k0
                            have m1 : w8.cell? ⟨wr.heap.size, 1, none⟩ = some (.int .i64 (B : Int)) := by rw [hw8]; exact (putW_far _ _ _ _ _ _ yls (by omega) (by omega)).trans k1
                            have yl8 : wr.heap.size < w8.heap.size := by rw [hw8]; exact Nat.lt_of_lt_of_le yls (putW_size _ _ _ _ _ _)
                            rw [← hw8] at SP
                            have x0' := SP.y.out A (by rw [HD.out.lh]; exact hAn)
                            have x1' := SP.y.cell (t := k) (by rw [HD.out.lh]; exact hAn) hkH
                            have lA' := (World.ownsRow.lt (SP.y.inn A (by rw [HD.out.lh]; exact hAn)) _ rfl).2
                            have lgo' := SP.y.lt
                            have HS8 := hideg SP
                            clear hw8 hp1 SP S6 k0 k1 yls hK K f0 f1 f2 f3 hne2 y0 y1 yl x0 x1 lA lgo
                            clear s
                            have hne3 : Nonempty (HeldIn w8) := ⟨⟨_, Below.refl _ _⟩⟩
                            have f0 : ∀ s : HeldIn w8, s.w.cell? ⟨wr.heap.size, 0, none⟩ = some (.int .i64 (A : Int)) := fun s => (s.h.cell (p := ⟨wr.heap.size, 0, none⟩) yl8).trans m0
                            have f1 : ∀ s : HeldIn w8, s.w.cell? ⟨wr.heap.size, 1, none⟩ = some (.int .i64 (B : Int)) := fun s => (s.h.cell (p := ⟨wr.heap.size, 1, none⟩) yl8).trans m1
                            have f2 := fun s : HeldIn w8 => (s.h.cell (p := ⟨goH, A, none⟩) lgo').trans x0'
                            have f3 := fun s : HeldIn w8 => (s.h.cell (p := ⟨bk bh A, k, none⟩) lA').trans x1'
                            go_wp2_with fail
                            refine wp_region_held_back _ (Below.refl _ _) (by kernel_rfl) (by simp) (by kernel_rfl) (by kernel_rfl) (by kernel_rfl) ?_
                            simp only [List.pop_toArray, List.dropLast, List.back!_toArray, List.getLast!]
                            repeat (go_big_quiet_step (fail))
                            refine wpQuiet_nil ?_
                            rintro _ ⟨s, rfl⟩
                            refine back_last (fun K hK => ?_)
                            go_simp
                            have S9 := HS8.out.below s.h
                            have hRn := ss_putB (a := (A, k, B, T, pc)) (b := (A, k, B, T, 1)) S9 HTC.out HTH.out HTP.out HTQ.out HPQ.out HD.out HmC.out HmH.out HokC.out HokH.out Hf0.out ⟨rfl, rfl, rfl, rfl⟩ hH1.2 (show src P (A, k, B, T, pc) ≠ 1099511627776 from hne) HGE.out
                            have hp2 := sums1_any w1.heap.size goH cH bh H Q B T (tat Q A k + 1) Bm _ s.w S9.y (by rw [HD.out.lh]; exact hBn) ok1 S9.m (S9.far.2.2 B hBn).2
                            rw [HD.out.lh] at hp2
                            refine hp2.mono ?_
                            rintro r w9 ⟨rfl, hw9⟩
                            refine hK.out _ _ ?_
                            have HRn : Hid (RS w1 n H goC goH bc bh Bm (firstT g (V : Int) (T0 : Int)) (allA g id H) (allA g (fun _ => 1) H) X Y (allA g id k ++ (waitA g k n ++ legA g id k (i + 1))) (allA g (fun _ => 1) k ++ (waitA g k n ++ legA g (fun _ => 1) k (i + 1))) w9) := by
                              show RS _ _ _ _ _ _ _ _ _ _ _ _ _ _ _ _
                              rw [HW.out, HW'.out, ← List.append_assoc (waitA g k n), ← List.append_assoc (waitA g k n), ← List.append_assoc (allA g id k), ← List.append_assoc (allA g (fun _ => 1) k), hw9]
                              exact hRn
                            clear hw9 hp2 hRn S9 hK K f0 f1 f2 f3 hne3 m0 m1 yl8 x0' x1' lA' lgo'
                            clear s
                            go_wp2
                            go_roundw
                            case rel => exact ⟨i + 1, by omega, by go_num, HRn.out⟩
                            case measure => simp [intOf]; omega
                          · have d1 : decide (tat P A k < 1099511627776) = false := by simpa using hinf
                            have hPi : tat P A k = 1099511627776 := by rcases HTP.out A k hAn hkH with e | e; exact e; omega
                            have hQi : tat Q A k = 1099511627776 := (HPQ.out A k hAn hkH).1 hPi
                            have HRn : Hid (RS w1 n H goC goH bc bh Bm (firstT g (V : Int) (T0 : Int)) (allA g id H) (allA g (fun _ => 1) H) X Y (allA g id k ++ (waitA g k n ++ legA g id k (i + 1))) (allA g (fun _ => 1) k ++ (waitA g k n ++ legA g (fun _ => 1) k (i + 1))) w7) := by
                              show RS _ _ _ _ _ _ _ _ _ _ _ _ _ _ _ _
                              rw [HW.out, HW'.out, ← List.append_assoc, ← List.append_assoc, ← List.append_assoc, ← List.append_assoc]
                              exact ⟨P, Q, cC', cH', HS.out, tn_inf (by rw [List.append_assoc]; exact HTC.out) (HokC.out _ HmC.out) Hf1.out hPi, tn_inf (by rw [List.append_assoc]; exact HTH.out) (HokH.out _ HmH.out) Hf1.out hQi, HTP.out, HTQ.out, HPQ.out⟩
                            clear hinf hPi hQi
                            go_wp2
                            go_roundw
                            case rel => exact ⟨i + 1, by omega, by go_num, HRn.out⟩
                            case measure => simp [intOf]; omega
                      · have hil : g.edges.length = i := by omega
                        have HRn : Hid (RS w1 n H goC goH bc bh Bm (firstT g (V : Int) (T0 : Int)) (allA g id H) (allA g (fun _ => 1) H) X Y (allA g id (k + 1)) (allA g (fun _ => 1) (k + 1)) wr) := by
                          show RS _ _ _ _ _ _ _ _ _ _ _ _ _ _ _ _
                          rw [allA, allA, ← HN.out, hil]; exact hRS
                        have hd6 : decide ((i : Int) < (g.edges.length : Int)) = false := by simp; omega
                        clear hRS
                        go_wp2
                        go_roundw
                        case rel => exact ⟨k + 1, by omega, by go_num, HRn.out⟩
                        case measure => simp [intOf]; omega
              · have hke : H = k := by omega
                subst hke
                obtain ⟨P, Q, cC', cH', hS, hTC, hTH, hTP, hTQ, hPQ⟩ := hRS
                have cm := hS.cell
                have fm := hS.frz
                have HFin : Hid ((∃ (Bm : Nat) (X Y : Tb) (ch : Bool), Value.pointer (some ⟨wr.heap.size, 0, none⟩) = .pointer (some ⟨Bm, 0, none⟩) ∧ SS w1 n H goC goH bc bh Bm X Y ch (wr.alloc (.cells #[.bool (cC' || cH')] 4)) ∧ JMid n H (firstT g (V : Int) (T0 : Int)) (allA g id H) X ∧ JMid n H (firstT g (V : Int) (T0 : Int)) (allA g (fun _ => 1) H) Y ∧ Tm n H X ∧ Tm n H Y ∧ Pr n H X Y ∧ (ch = false → JBest n H (firstT g (V : Int) (T0 : Int)) (allA g id H) X ∧ JBest n H (firstT g (V : Int) (T0 : Int)) (allA g (fun _ => 1) H) Y)) ∧ 2 * (tsum (rdT (wr.alloc (.cells #[.bool (cC' || cH')] 4)) bc H) + tsum (rdT (wr.alloc (.cells #[.bool (cC' || cH')] 4)) bh H)) + flagAt (wr.alloc (.cells #[.bool (cC' || cH')] 4)) (.pointer (some ⟨wr.heap.size, 0, none⟩)) < 2 * (tsum X + tsum Y) + 1) := by
                  have SB := ss_box hS.c hS.y HD.out hS.bel (cC' || cH')
                  refine ⟨⟨wr.heap.size, P, Q, cC' || cH', rfl, SB, hTC.mid, hTH.mid, hTP, hTQ, hPQ, fun hf => ?_⟩, ?_⟩
                  · rw [Bool.or_eq_false_iff] at hf
                    obtain ⟨rfl, rfl⟩ := hf
                    exact ⟨tn_end hTC, tn_end hTH⟩
                  · rw [SB.c.rd (by rw [hTC.mid.shp.rows, HD.out.lc]), SB.y.rd (by rw [hTH.mid.shp.rows, HD.out.lh]), SB.flag]
                    have s1 := hTC.sum
                    have s2 := hTH.sum
                    cases cC' with
                    | true => have := hTC.less rfl; simp; omega
                    | false =>
                      cases cH' with
                      | true => have := hTH.less rfl; simp; omega
                      | false => simp; omega
                clear hS hTC hTH hTP hTQ hPQ
                go_wp2_with fail
                rw [HMs.out]
                exact HFin.out
      | true =>
        have HAlv := hideg halv
        clear halv
        have c0 := HTC3.out.out V (by rw [HD.out.lc]; exact hVn)
        have c1 := HTH3.out.out V (by rw [HD.out.lh]; exact hVn)
        have d0 := HTC3.out.cell (t := T0) (by rw [HD.out.lc]; exact hVn) hTH
        have d1 := HTH3.out.cell (t := T0) (by rw [HD.out.lh]; exact hVn) hTH
        have fC := World.ownsRow.frozenAt (HTC3.out.inn V (by rw [HD.out.lc]; exact hVn)) T0
        have fH := World.ownsRow.frozenAt (HTH3.out.inn V (by rw [HD.out.lh]; exact hVn)) T0
        have hne1 := HD.out.ch V V hVn hVn
        have hne2 := (HD.out.gc V hVn)
        have hne3 := (HD.out.gh V hVn)
        have hVi : (V : Int) < (n : Int) := by omega
        have hTi : (T0 : Int) < (H : Int) := by omega
        have kC1 : ∀ (W : World) (u x : Value), W.cell? ⟨goC, V, none⟩ = some x → (W.setCell ⟨bk bc V, T0, none⟩ u).drew.cell? ⟨goC, V, none⟩ = some x := fun W u x h => (World.cell?_setCell_far W ⟨bk bc V, T0, none⟩ ⟨goC, V, none⟩ u (fun e => hne2.1 e.symm)).trans h
        have kC2 : ∀ (W : World) (u x : Value), W.cell? ⟨goH, V, none⟩ = some x → (W.setCell ⟨bk bc V, T0, none⟩ u).drew.cell? ⟨goH, V, none⟩ = some x := fun W u x h => (World.cell?_setCell_far W ⟨bk bc V, T0, none⟩ ⟨goH, V, none⟩ u (fun e => hne2.2 e.symm)).trans h
        have kH1 : ∀ (W : World) (u x : Value), W.cell? ⟨goC, V, none⟩ = some x → (W.setCell ⟨bk bh V, T0, none⟩ u).drew.cell? ⟨goC, V, none⟩ = some x := fun W u x h => (World.cell?_setCell_far W ⟨bk bh V, T0, none⟩ ⟨goC, V, none⟩ u (fun e => hne3.1 e.symm)).trans h
        have kH2 : ∀ (W : World) (u x : Value), W.cell? ⟨goH, V, none⟩ = some x → (W.setCell ⟨bk bh V, T0, none⟩ u).drew.cell? ⟨goH, V, none⟩ = some x := fun W u x h => (World.cell?_setCell_far W ⟨bk bh V, T0, none⟩ ⟨goH, V, none⟩ u (fun e => hne3.2 e.symm)).trans h
        have s1 := kC1 w3 (.int .i64 0) _ c0
        have s2 := kC2 w3 (.int .i64 0) _ c1
        have s3 := kH1 (w3.setCell ⟨bk bc V, T0, none⟩ (.int .i64 0)) (.int .i64 0) _ s1
        have s4 := kH2 (w3.setCell ⟨bk bc V, T0, none⟩ (.int .i64 0)) (.int .i64 0) _ s2
        clear kC1 kC2 kH1 kH2
        go_wp2_with fail
        go_region_held3 (fun w' => w'.cell? ⟨goC, V, none⟩ = some (.slice (some ⟨bk bc V, 0, none⟩) H (ck bc V)) ∧ w'.cell? ⟨goH, V, none⟩ = some (.slice (some ⟨bk bh V, 0, none⟩) H (ck bh V)))
          (first | go_keep | (refine ⟨?_, ?_⟩ <;> assumption))
          (fail)
        have hXC := HTC3.out.set (t := T0) (v := V) (by rw [HD.out.lc]; exact hVn) (by rw [HD.out.lc]; exact (infT_shp n H).rows) 0 (HD.out.gc V hVn).1 (fun v' hv' hne => HD.out.cc V v' hVn (by rw [← HD.out.lc]; exact hv') hne)
        have hXH0 := HTH3.out.kept (gby_set w3 (bk bc V) T0 (.int .i64 0)) (HD.out.gc V hVn).2 (fun v' hv' => (HD.out.ch V v' hVn (by rw [← HD.out.lh]; exact hv')).symm)
        have hXH := hXH0.set (t := T0) (v := V) (by rw [HD.out.lh]; exact hVn) (by rw [HD.out.lh]; exact (infT_shp n H).rows) 0 (HD.out.gh V hVn).2 (fun v' hv' hne => HD.out.hh V v' hVn (by rw [← HD.out.lh]; exact hv') hne)
        have hXC2 := hXC.kept (gby_set _ (bk bh V) T0 (.int .i64 0)) (HD.out.gh V hVn).1 (fun v' hv' => HD.out.ch v' V (by rw [← HD.out.lc]; exact hv') hVn)
        have hbb4 : Below w1.heap.size w1 ((w3.setCell ⟨bk bc V, T0, none⟩ (.int .i64 0)).setCell ⟨bk bh V, T0, none⟩ (.int .i64 0)).drew := ((hbb3.setCell (p := ⟨bk bc V, T0, none⟩) (HGE.out V hVn).1 _).setCell (p := ⟨bk bh V, T0, none⟩) (HGE.out V hVn).2 _).drew
        have hC4 := hXC2.below (Below.refl _ _).drew
        have hH4 := hXH.below (Below.refl _ _).drew
        obtain ⟨w4, hw4⟩ : ∃ x, x = ((w3.setCell ⟨bk bc V, T0, none⟩ (.int .i64 0)).setCell ⟨bk bh V, T0, none⟩ (.int .i64 0)).drew := ⟨_, rfl⟩
        rw [← hw4] at hbb4 hC4 hH4 ⊢
        clear hw4 hXC hXH0 hXH hXC2 hbb3 HTC3 HTH3 s1 s2 s3 s4 c0 c1 d0 d1 fC fH hne1 hne2 hne3
        have hTt : ∀ v' t', v' < n → t' < H → tat (tset (infT n H) V T0 0) v' t' = firstT g (V : Int) (T0 : Int) v' t' := fun v' t' h1 h2 => by
          rw [tat_set (infT_shp n H) hVn hTH]
          unfold firstT
          by_cases e : v' = V ∧ t' = T0
          · rw [if_pos e, if_pos ⟨HAlv.out, by rw [e.1], by rw [e.2]⟩]
          · rw [if_neg e, if_neg (fun h => e ⟨by omega, by omega⟩), infT_at n H v' t' h1 h2]
        have HSh := hideg (shp_set (infT_shp n H) hVn T0 0)
        obtain ⟨X0, hX0⟩ : ∃ X, X = tset (infT n H) V T0 0 := ⟨_, rfl⟩
        rw [← hX0] at hC4 hH4 hTt HSh
        have HTt := hideg hTt
        have HTC3 := hideg hC4
        have HTH3 := hideg hH4
        have hbb3 := hbb4
        clear hTt hX0 hC4 hH4 hbb4
        go_wp2_with fail
        have hmf : ∀ (fn : Fn) (first cap : Array Value) (w : World), (Instr.makeFunc fn first cap).run Try.prog w = .ok (.func fn first cap) w := fun _ _ _ _ => rfl
        have eg : ∀ args w, (callFunc 22 args).run Try.prog w = .ok (.enter 22 args) w := enters_of Try.func22 (by kernel_rfl) rfl
        have HokC : Hid (∀ a ∈ allA g id H, JOk n H a) := by intro a ha; have := allA_ok HRt.out (pr := id) (fun c h0 h1 => ⟨h0, h1⟩) H (by rw [HHi.out]; omega) a ha; rw [← HN.out, ← HHd.out] at this; exact this
        have HokH : Hid (∀ a ∈ allA g (fun _ => 1) H, JOk n H a) := by intro a ha; have := allA_ok HRt.out (pr := fun _ => 1) (fun c h0 h1 => ⟨by omega, by omega⟩) H (by rw [HHi.out]; omega) a ha; rw [← HN.out, ← HHd.out] at this; exact this
        have Hf0 : Hid (∀ v' t', v' < n → t' < H → 0 ≤ firstT g (V : Int) (T0 : Int) v' t') := fun v' t' _ _ => firstT_lo g _ _ v' t'
        have Hf1 : Hid (∀ v' t', v' < n → t' < H → firstT g (V : Int) (T0 : Int) v' t' ≤ 1099511627776) := fun v' t' _ _ => firstT_hi g _ _ v' t'
        have HS0 := hideg (ss_box HTC3.out HTH3.out HD.out hbb3 true)
        have HSum : Hid (∀ X Y, JBest n H (firstT g (V : Int) (T0 : Int)) (allA g id H) X → JBest n H (firstT g (V : Int) (T0 : Int)) (allA g (fun _ => 1) H) Y → Tm n H X → Tm n H Y → Pr n H X Y → SumIs g (V : Int) (T0 : Int) X Y) := by
          intro X Y h1 h2 h3 h4 h5
          rw [HN.out, HHd.out] at h1 h2 h3 h4 h5
          exact ⟨h1, h2, h3, h4, h5⟩
        have HJ0 : Hid (∀ arcs, JMid n H (firstT g (V : Int) (T0 : Int)) arcs X0) := fun arcs => jmid_first HSh.out HTt.out
        have HT0 : Hid (Tm n H X0) := tm_first HTt.out (firstT_two g _ _)
        have HBw : Hid (∀ W, Below w1.heap.size w1 W → Below w.heap.size w W) := fun W h => (HB1.out.below h).bel
        clear hbb3 HTC3 HTH3 HSh HTt
        go_loopw [12] (fun pm wr => ∃ (Bm : Nat) (X Y : Tb) (ch : Bool), pm = .pointer (some ⟨Bm, 0, none⟩) ∧ SS w1 n H goC goH bc bh Bm X Y ch wr ∧ JMid n H (firstT g (V : Int) (T0 : Int)) (allA g id H) X ∧ JMid n H (firstT g (V : Int) (T0 : Int)) (allA g (fun _ => 1) H) Y ∧ Tm n H X ∧ Tm n H Y ∧ Pr n H X Y ∧ (ch = false → JBest n H (firstT g (V : Int) (T0 : Int)) (allA g id H) X ∧ JBest n H (firstT g (V : Int) (T0 : Int)) (allA g (fun _ => 1) H) Y)) (fun pm wr => 2 * (tsum (rdT wr bc H) + tsum (rdT wr bh H)) + flagAt wr pm)
        case atStart => exact ⟨w4.heap.size, X0, X0, true, rfl, HS0.out, HJ0.out _, HJ0.out _, HT0.out, HT0.out, pr_self n H X0, fun h => by cases h⟩
        case round =>
          clear HS0 HJ0 HT0
          obtain ⟨Bm, X, Y, ch, rfl, hS, hMX, hMY, hTX, hTY, hP, hBest⟩ := hrel
          have cm := hS.cell
          have fm := hS.frz
          cases ch with
          | false =>
            obtain ⟨bX, bY⟩ := hBest rfl
            have HR := hideg (HSum.out X Y bX bY hTX hTY hP)
            have HS := hideg hS
            clear hS hMX hMY hTX hTY hP hBest bX bY
            go_wp2
            go_ret2
            exact ⟨goC, cC, goH, cH, bc, bh, X, Y, rfl, HS.out.c.base HB1.out.bel.size, HS.out.y.base HB1.out.bel.size, HD.out.lc, HD.out.lh, HR.out, HBw.out _ HS.out.bel⟩
          | true =>
            have hS5 := hS.clear HD.out false
            have hR0 : RS w1 n H goC goH bc bh Bm (firstT g (V : Int) (T0 : Int)) (allA g id H) (allA g (fun _ => 1) H) X Y [] [] (wr.setCell ⟨Bm, 0, none⟩ (.bool false)) := ⟨X, Y, false, false, hS5, tn_start hMX, tn_start hMY, hTX, hTY, hP⟩
            have HR0 := hideg hR0
            have hmeas : 2 * (tsum (rdT wr bc H) + tsum (rdT wr bh H)) + flagAt wr (.pointer (some ⟨Bm, 0, none⟩)) = 2 * (tsum X + tsum Y) + 1 := by
              rw [hS.c.rd (by rw [hMX.shp.rows, HD.out.lc]), hS.y.rd (by rw [hMY.shp.rows, HD.out.lh]), hS.flag]; rfl
            have HMs := hideg hmeas
            clear hS hS5 hMX hMY hTX hTY hP hBest hR0 hmeas
            obtain ⟨w5, hw5⟩ : ∃ x, x = wr.setCell ⟨Bm, 0, none⟩ (.bool false) := ⟨_, rfl⟩
            rw [← hw5] at HR0
            have hw5s := hw5.symm
            clear hw5
            go_wp2_with fail
            clear hw5s
            go_loopw [14] (fun tt wr => ∃ k : Nat, k ≤ H ∧ tt = .int .i64 k ∧ RS w1 n H goC goH bc bh Bm (firstT g (V : Int) (T0 : Int)) (allA g id H) (allA g (fun _ => 1) H) X Y (allA g id k) (allA g (fun _ => 1) k) wr) (fun tt _ => H - (intOf tt).toNat)
            case atStart => exact ⟨0, Nat.zero_le _, rfl, HR0.out⟩
            case round =>
              clear HR0
              obtain ⟨k, hk, rfl, hRS⟩ := hrel
              have hbk : Below w1.heap.size w1 wr := by obtain ⟨_, _, _, _, S, _⟩ := hRS; exact S.bel
              obtain ⟨b0, b1, b2⟩ := HBX.out wr hbk
              have HRS := hideg hRS
              by_cases hkH : k < H
              · obtain ⟨wa, hwa⟩ : ∃ x, x = wr := ⟨_, rfl⟩
                rw [← hwa] at HRS b0 b1 b2 ⊢
                clear hRS hwa hbk
                have hkw : IntKind.i64.wrap ((k : Int) + 1) = (k : Int) + 1 := wrap_nr _ (by omega) (by omega)
                have HSt5 : Hid (RS w1 n H goC goH bc bh Bm (firstT g (V : Int) (T0 : Int)) (allA g id H) (allA g (fun _ => 1) H) X Y (allA g id k ++ waitA g k 0) (allA g (fun _ => 1) k ++ waitA g k 0) wa) := by
                  show RS _ _ _ _ _ _ _ _ _ _ _ _ _ _ _ _
                  rw [waitA, List.append_nil, List.append_nil]; exact HRS.out
                clear HRS
                go_wp2_with fail
                go_loopw [15] (fun vv wr => ∃ j : Nat, j ≤ n ∧ vv = .int .i64 j ∧ RS w1 n H goC goH bc bh Bm (firstT g (V : Int) (T0 : Int)) (allA g id H) (allA g (fun _ => 1) H) X Y (allA g id k ++ waitA g k j) (allA g (fun _ => 1) k ++ waitA g k j) wr) (fun vv _ => n - (intOf vv).toNat)
                case atStart => exact ⟨0, Nat.zero_le _, rfl, HSt5.out⟩
                case round =>
                  clear HSt5 b0 b1 b2
                  obtain ⟨j, hj, rfl, hRS⟩ := hrel
                  have hbk : Below w1.heap.size w1 wr := by obtain ⟨_, _, _, _, S, _⟩ := hRS; exact S.bel
                  obtain ⟨b0, b1, b2⟩ := HBX.out wr hbk
                  by_cases hjn : j < n
                  · obtain ⟨P, Q, cC', cH', hS, hTC, hTH, hTP, hTQ, hPQ⟩ := hRS
                    have c0 := hS.c.out j (by rw [HD.out.lc]; exact hjn)
                    have c1 := hS.c.cell (t := k) (by rw [HD.out.lc]; exact hjn) hkH
                    have hjl : j < g.lives.length := by rw [← HN.out]; exact hjn
                    have hji : (j : Int) < (n : Int) := by omega
                    have hki : (k : Int) < (H : Int) := by omega
                    have HS := hideg hS
                    have HTC := hideg hTC
                    have HTH := hideg hTH
                    have HTP := hideg hTP
                    have HTQ := hideg hTQ
                    have HPQ := hideg hPQ
                    clear hS hTC hTH hTP hTQ hPQ
                    by_cases hinf : tat P j k < 1099511627776
                    · have d1 : decide (tat P j k < 1099511627776) = true := by simpa using hinf
                      have hne : tat P j k ≠ 1099511627776 := by omega
                      by_cases hk1 : k + 1 < H
                      · have d2 : decide ((k : Int) + 1 < (H : Int)) = true := by simp; omega
                        have hA := HAl.out j ((k : Int) + 1) wr hjn hbk
                        cases hal : aliveB ((k : Int) + 1) g.lives (j : Int) with
                        | false =>
                          have HW := hideg (waitA_no (g := g) (t := k) (k := j) (fun h => by rw [hal] at h; cases h.2))
                          rw [hal] at hA
                          clear hal
                          go_wp2_with fail
                          refine hA.mono ?_
                          rintro r w6 ⟨rfl, hb6⟩
                          have HRn : Hid (RS w1 n H goC goH bc bh Bm (firstT g (V : Int) (T0 : Int)) (allA g id H) (allA g (fun _ => 1) H) X Y (allA g id k ++ waitA g k (j + 1)) (allA g (fun _ => 1) k ++ waitA g k (j + 1)) w6) := by
                            show RS _ _ _ _ _ _ _ _ _ _ _ _ _ _ _ _
                            rw [HW.out, List.append_nil]; exact ⟨P, Q, cC', cH', HS.out.below hb6, HTC.out, HTH.out, HTP.out, HTQ.out, HPQ.out⟩
                          clear hA hb6 c0 c1 b0 b1 b2
                          go_wp2
                          go_roundw
                          case rel => exact ⟨j + 1, by omega, by go_num, HRn.out⟩
                          case measure => simp [intOf]; omega
                        | true =>
                          have hcond : ((k : Int) + 1 < g.hor) ∧ aliveB ((k : Int) + 1) g.lives (j : Int) = true := ⟨by rw [HHi.out]; omega, hal⟩
                          have HW := hideg (waitA_yes hcond)
                          have HmC := hideg (wait_mem (pr := id) (H := H) hkH hjl hcond)
                          have HmH := hideg (wait_mem (pr := fun _ => 1) (H := H) hkH hjl hcond)
                          rw [hal] at hA
                          clear hal hcond
                          go_wp2_with fail
                          refine hA.mono ?_
                          rintro r w6 ⟨rfl, hb6⟩
                          have S6 := HS.out.below hb6
                          obtain ⟨S7, RS8⟩ := ss_put S6 HTC.out HTH.out HTP.out HTQ.out HPQ.out HD.out HmC.out HmH.out HokC.out HokH.out Hf0.out ⟨rfl, rfl, rfl, rfl⟩ hH1.2 (show src P (j, k, j, k + 1, 0) ≠ 1099511627776 from hne) HGE.out
                          simp only [src, dst, Int.add_zero] at S7 RS8
                          have hp1 := sums1_any w1.heap.size goC cC bc H P j (k + 1) (tat P j k) Bm _ w6 S6.c (by rw [HD.out.lc]; exact hjn) hk1 S6.m (S6.far.2.2 j hjn).1
                          have hp2 := sums1_any w1.heap.size goH cH bh H Q j (k + 1) (tat Q j k) Bm _ _ S7.y (by rw [HD.out.lh]; exact hjn) hk1 S7.m (S7.far.2.2 j hjn).2
                          rw [HD.out.lc, show ((k + 1 : Nat) : Int) = (k : Int) + 1 from by omega] at hp1
                          rw [HD.out.lh, show ((k + 1 : Nat) : Int) = (k : Int) + 1 from by omega] at hp2
                          have x0 := S6.c.out j (by rw [HD.out.lc]; exact hjn)
                          have x1 := S6.c.cell (t := k) (by rw [HD.out.lc]; exact hjn) hkH
                          have y0 := S7.y.out j (by rw [HD.out.lh]; exact hjn)
                          have y1 := S7.y.cell (t := k) (by rw [HD.out.lh]; exact hjn) hkH
                          have HS7 := hideg S7
                          rw [List.append_assoc, List.append_assoc, ← HW.out] at RS8
                          have HRn := hideg RS8
                          generalize putW w6 (bk bc j) (k + 1) Bm (tat P j k) (tat P j (k + 1)) = w7 at *
                          clear hA hb6 c0 c1 b0 b1 b2 S6 S7 RS8
                          go_wp2_with fail
                          go_at_fn 22
                          refine hp1.mono ?_
                          rintro r w7' ⟨rfl, hw7⟩
                          have hw7s := hw7.symm
                          subst hw7s
                          clear hw7 hp1 x0 x1
                          go_wp2_with fail
                          go_at_fn 22
                          refine hp2.mono ?_
                          rintro r w8 ⟨rfl, hw8⟩
                          rw [← hw8] at HRn
                          clear hw8 hp2 y0 y1
                          go_wp2
                          go_roundw
                          case rel => exact ⟨j + 1, by omega, by go_num, HRn.out⟩
                          case measure => simp [intOf]; omega
                      · have d2 : decide ((k : Int) + 1 < (H : Int)) = false := by simp; omega
                        have HW := hideg (waitA_no (g := g) (t := k) (k := j) (fun h => by have := h.1; rw [HHi.out] at this; omega))
                        have HRn : Hid (RS w1 n H goC goH bc bh Bm (firstT g (V : Int) (T0 : Int)) (allA g id H) (allA g (fun _ => 1) H) X Y (allA g id k ++ waitA g k (j + 1)) (allA g (fun _ => 1) k ++ waitA g k (j + 1)) wr) := by
                          show RS _ _ _ _ _ _ _ _ _ _ _ _ _ _ _ _
                          rw [HW.out, List.append_nil]; exact ⟨P, Q, cC', cH', HS.out, HTC.out, HTH.out, HTP.out, HTQ.out, HPQ.out⟩
                        go_wp2
                        go_roundw
                        case rel => exact ⟨j + 1, by omega, by go_num, HRn.out⟩
                        case measure => simp [intOf]; omega
                    · have d1 : decide (tat P j k < 1099511627776) = false := by simpa using hinf
                      have hPi : tat P j k = 1099511627776 := by rcases HTP.out j k hjn hkH with e | e; exact e; omega
                      have hQi : tat Q j k = 1099511627776 := (HPQ.out j k hjn hkH).1 hPi
                      have HRn : Hid (RS w1 n H goC goH bc bh Bm (firstT g (V : Int) (T0 : Int)) (allA g id H) (allA g (fun _ => 1) H) X Y (allA g id k ++ waitA g k (j + 1)) (allA g (fun _ => 1) k ++ waitA g k (j + 1)) wr) := by
                        show RS _ _ _ _ _ _ _ _ _ _ _ _ _ _ _ _
                        by_cases hcond : ((k : Int) + 1 < g.hor) ∧ aliveB ((k : Int) + 1) g.lives (j : Int) = true
                        · rw [waitA_yes hcond, ← List.append_assoc, ← List.append_assoc]
                          exact ⟨P, Q, cC', cH', HS.out, tn_inf HTC.out (HokC.out _ (wait_mem hkH hjl hcond)) Hf1.out hPi, tn_inf HTH.out (HokH.out _ (wait_mem hkH hjl hcond)) Hf1.out hQi, HTP.out, HTQ.out, HPQ.out⟩
                        · rw [waitA_no hcond, List.append_nil]; exact ⟨P, Q, cC', cH', HS.out, HTC.out, HTH.out, HTP.out, HTQ.out, HPQ.out⟩
                      clear hinf hPi hQi
                      go_wp2
                      go_roundw
                      case rel => exact ⟨j + 1, by omega, by go_num, HRn.out⟩
                      case measure => simp [intOf]; omega
                  · clear b0 b1 b2
                    have hje : n = j := by omega
                    subst hje
                    obtain ⟨b0, b1, b2⟩ := HBX.out wr hbk
                    have HRS := hideg hRS
                    obtain ⟨wa2, hwa2⟩ : ∃ x, x = wr := ⟨_, rfl⟩
                    rw [← hwa2] at HRS b0 b1 b2 ⊢
                    clear hRS hwa2 hbk
                    have HSt6 : Hid (RS w1 n H goC goH bc bh Bm (firstT g (V : Int) (T0 : Int)) (allA g id H) (allA g (fun _ => 1) H) X Y (allA g id k ++ (waitA g k n ++ legA g id k 0)) (allA g (fun _ => 1) k ++ (waitA g k n ++ legA g (fun _ => 1) k 0)) wa2) := by
                      show RS _ _ _ _ _ _ _ _ _ _ _ _ _ _ _ _
                      rw [legA, legA, List.append_nil]; exact HRS.out
                    clear HRS
                    go_wp2_with fail
                    go_loopw [16] (fun ii wr => ∃ i : Nat, i ≤ g.edges.length ∧ ii = .int .i64 i ∧ RS w1 n H goC goH bc bh Bm (firstT g (V : Int) (T0 : Int)) (allA g id H) (allA g (fun _ => 1) H) X Y (allA g id k ++ (waitA g k n ++ legA g id k i)) (allA g (fun _ => 1) k ++ (waitA g k n ++ legA g (fun _ => 1) k i)) wr) (fun ii _ => g.edges.length - (intOf ii).toNat)
                    case atStart => exact ⟨0, Nat.zero_le _, rfl, HSt6.out⟩
                    case round =>
                      clear HSt6 b0 b1 b2
                      obtain ⟨i, hi6, rfl, hRS⟩ := hrel
                      have hbk : Below w1.heap.size w1 wr := by obtain ⟨_, _, _, _, S, _⟩ := hRS; exact S.bel
                      obtain ⟨b0, b1, b2⟩ := HBX.out wr hbk
                      by_cases hie : i < g.edges.length
                      · rcases (HG.out.below (HB1.out.below hbk).bel).ed with h0 | ⟨eb, eo, rfl, hebr, hec⟩
                        · rw [h0] at hie; simp at hie
                        obtain ⟨c0, c1, lo, lcap, c2, _⟩ := hec i hie
                        obtain ⟨hA, hB, _⟩ := HRt.out.ends g.edges[i] (List.getElem_mem hie)
                        obtain ⟨A, eA⟩ : ∃ A : Nat, g.edges[i].1 = (A : Int) := ⟨g.edges[i].1.toNat, by omega⟩
                        obtain ⟨B, eB⟩ : ∃ A : Nat, g.edges[i].2.1 = (A : Int) := ⟨g.edges[i].2.1.toNat, by omega⟩
                        have hAn : A < n := by have := HN.out; omega
                        have hBn : B < n := by have := HN.out; omega
                        have hii : (i : Int) < (g.edges.length : Int) := by omega
                        have hAi : (A : Int) < (n : Int) := by omega
                        have hBi : (B : Int) < (n : Int) := by omega
                        have hki : (k : Int) < (H : Int) := by omega
                        rw [eA] at c0
                        rw [eB] at c1
                        generalize hll : g.edges[i].2.2.length = ll at c2
                        have gx := pal wr (.cells #[.int .i64 (A : Int), .int .i64 (B : Int), .slice lo ll lcap] 51)
                        have hL := HLd.out i (k : Int) _ hie (hbk.trans (gx.mono hbk.size))
                        have hx0 : (wr.alloc (.cells #[.int .i64 (A : Int), .int .i64 (B : Int), .slice lo ll lcap] 51)).cell? ⟨wr.heap.size, 0, none⟩ = some (.int .i64 (A : Int)) := by simp
                        have hx1 : (wr.alloc (.cells #[.int .i64 (A : Int), .int .i64 (B : Int), .slice lo ll lcap] 51)).cell? ⟨wr.heap.size, 1, none⟩ = some (.int .i64 (B : Int)) := by simp
                        have hz6 : (wr.alloc (.cells #[.int .i64 (A : Int), .int .i64 (B : Int), .slice lo ll lcap] 51)).heap.size = wr.heap.size + 1 := by simp
                        obtain ⟨z0, z1, z2⟩ := HBX.out _ (hbk.trans (gx.mono hbk.size))
                        have HZ : Hid (∀ W, Below (wr.alloc (.cells #[.int .i64 (A : Int), .int .i64 (B : Int), .slice lo ll lcap] 51)).heap.size (wr.alloc (.cells #[.int .i64 (A : Int), .int .i64 (B : Int), .slice lo ll lcap] 51)) W → Below wr.heap.size wr W ∧ W.cell? ⟨wr.heap.size, 0, none⟩ = some (.int .i64 (A : Int)) ∧ W.cell? ⟨wr.heap.size, 1, none⟩ = some (.int .i64 (B : Int)) ∧ wr.heap.size < W.heap.size) := fun W h => ⟨ptw gx h, (h.cell (p := ⟨wr.heap.size, 0, none⟩) (by simp)).trans hx0, (h.cell (p := ⟨wr.heap.size, 1, none⟩) (by simp)).trans hx1, by have := h.size; rw [hz6] at this; omega⟩
                        have HRS := hideg hRS
                        unfold landsV at hL
                        clear hec hebr hA hB gx hRS hx0 hx1 hz6 hbk
                        obtain ⟨w6, hw6⟩ : ∃ x, x = wr.alloc (.cells #[.int .i64 (A : Int), .int .i64 (B : Int), .slice lo ll lcap] 51) := ⟨_, rfl⟩
                        rw [← hw6] at hL HZ z0 z1 z2
                        have hw6s := hw6.symm
                        clear hw6
                        cases hs : lands g g.edges[i] (k : Int) with
                        | none =>
                          have HW := hideg (legA_no (pr := id) hie hs)
                          have HW' := hideg (legA_no (pr := fun _ => 1) hie hs)
                          rw [hs] at hL
                          simp only [Option.getD_none, Option.isSome_none] at hL
                          clear hs eA eB hll
                          go_wp2_with fail
                          clear hw6s
                          refine hL.mono ?_
                          rintro r w7 ⟨rfl, hb7⟩
                          have HRn : Hid (RS w1 n H goC goH bc bh Bm (firstT g (V : Int) (T0 : Int)) (allA g id H) (allA g (fun _ => 1) H) X Y (allA g id k ++ (waitA g k n ++ legA g id k (i + 1))) (allA g (fun _ => 1) k ++ (waitA g k n ++ legA g (fun _ => 1) k (i + 1))) w7) := by
                            show RS _ _ _ _ _ _ _ _ _ _ _ _ _ _ _ _
                            rw [HW.out, HW'.out, List.append_nil, List.append_nil]; exact HRS.out.below (HZ.out _ hb7).1
                          clear hL hb7 b0 b1 b2 c0 c1 c2 z0 z1 z2
                          go_wp2
                          go_roundw
                          case rel => exact ⟨i + 1, by omega, by go_num, HRn.out⟩
                          case measure => simp [intOf]; omega
                        | some q =>
                          have HW := hideg (legA_yes (pr := id) hie hs)
                          have HW' := hideg (legA_yes (pr := fun _ => 1) hie hs)
                          have HmC := hideg (leg_mem (pr := id) (H := H) hkH hie hs)
                          have HmH := hideg (leg_mem (pr := fun _ => 1) (H := H) hkH hie hs)
                          obtain ⟨to, pc⟩ := q
                          rw [hs] at hL
                          simp only [Option.getD_some, Option.isSome_some] at hL
                          clear hs
                          rw [eA, eB] at HW HW' HmC HmH
                          simp only [Int.toNat_natCast] at HW HW' HmC HmH
                          have okC := HokC.out _ HmC.out
                          have ok1 := okC.t'
                          have ok2 := okC.lt
                          have ok3 := okC.p0
                          have ok4 := okC.p1
                          simp only [id] at ok1 ok2 ok3 ok4
                          obtain ⟨T, rfl⟩ : ∃ T : Nat, to = (T : Int) := ⟨to.toNat, by omega⟩
                          simp only [Int.toNat_natCast] at HW HW' HmC HmH ok1 ok2
                          have hTi : (T : Int) < (H : Int) := by omega
                          clear okC eA eB hll
                          go_wp2_with fail
                          clear hw6s
                          refine hL.mono ?_
                          rintro r w7 ⟨rfl, hb7⟩
                          obtain ⟨hb67, y0, y1, yl⟩ := HZ.out _ hb7
                          have hfar : bk bc B < wr.heap.size ∧ Bm < wr.heap.size := by obtain ⟨_, _, _, _, S0, _⟩ := HRS.out; exact ⟨(World.ownsRow.lt (S0.c.inn B (by rw [HD.out.lc]; exact hBn)) _ rfl).2, S0.lt⟩
                          obtain ⟨P, Q, cC', cH', hS, hTC, hTH, hTP, hTQ, hPQ⟩ := HRS.out.below hb67
                          have x0 := hS.c.out A (by rw [HD.out.lc]; exact hAn)
                          have x1 := hS.c.cell (t := k) (by rw [HD.out.lc]; exact hAn) hkH
                          have HS := hideg hS
                          have HTC := hideg hTC
                          have HTH := hideg hTH
                          have HTP := hideg hTP
                          have HTQ := hideg hTQ
                          have HPQ := hideg hPQ
                          clear hS hTC hTH hTP hTQ hPQ hL hb7 b0 b1 b2 c0 c1 c2 z0 z1 z2 HZ HRS
                          by_cases hinf : tat P A k < 1099511627776
                          · have d1 : decide (tat P A k < 1099511627776) = true := by simpa using hinf
                            have hne : tat P A k ≠ 1099511627776 := by omega
                            have hPlo : 0 ≤ tat P A k ∧ tat P A k ≤ 1000 * (k : Int) := by rcases HTP.out A k hAn hkH with e | e; exact absurd e hne; exact e
                            have hQne : tat Q A k ≠ 1099511627776 := fun e => hne ((HPQ.out A k hAn hkH).2 e)
                            have hQlo : 0 ≤ tat Q A k ∧ tat Q A k ≤ 1000 * (k : Int) := by rcases HTQ.out A k hAn hkH with e | e; exact absurd e hQne; exact e
                            have hwP : IntKind.i64.wrap (tat P A k + pc) = tat P A k + pc := wrap_nr _ (by omega) (by omega)
                            have hwQ : IntKind.i64.wrap (tat Q A k + 1) = tat Q A k + 1 := wrap_nr _ (by omega) (by omega)
                            go_wp2_with fail
                            have lA := (World.ownsRow.lt (HS.out.c.inn A (by rw [HD.out.lc]; exact hAn)) _ rfl).2
                            have lgo := HS.out.c.lt
                            have hne2 : Nonempty (HeldIn w7) := ⟨⟨_, Below.refl _ _⟩⟩
                            have f0 : ∀ s : HeldIn w7, s.w.cell? ⟨wr.heap.size, 0, none⟩ = some (.int .i64 (A : Int)) := fun s => (s.h.cell (p := ⟨wr.heap.size, 0, none⟩) yl).trans y0
                            have f1 : ∀ s : HeldIn w7, s.w.cell? ⟨wr.heap.size, 1, none⟩ = some (.int .i64 (B : Int)) := fun s => (s.h.cell (p := ⟨wr.heap.size, 1, none⟩) yl).trans y1
                            have f2 := fun s : HeldIn w7 => (s.h.cell (p := ⟨goC, A, none⟩) lgo).trans x0
                            have f3 := fun s : HeldIn w7 => (s.h.cell (p := ⟨bk bc A, k, none⟩) lA).trans x1
                            refine wp_region_held_back _ (Below.refl _ _) (by kernel_rfl) (by simp) (by kernel_rfl) (by kernel_rfl) (by kernel_rfl) ?_
                            simp only [List.pop_toArray, List.dropLast, List.back!_toArray, List.getLast!]
                            repeat (go_big_quiet_step (fail))
                            refine wpQuiet_nil ?_
                            rintro _ ⟨s, rfl⟩
                            refine back_last (fun K hK => ?_)
                            go_simp
                            have S6 := HS.out.below s.h
                            have SP := S6.putC HD.out HTC.out.mid.shp.rows (v := B) (t := T) hBn (tat P A k + pc) (HGE.out B hBn).1
                            have hp1 := sums1_any w1.heap.size goC cC bc H P B T (tat P A k + pc) Bm _ s.w S6.c (by rw [HD.out.lc]; exact hBn) ok1 S6.m (S6.far.2.2 B hBn).1
                            rw [HD.out.lc] at hp1
                            have k0 := f0 s
                            have k1 := f1 s
                            have yls : wr.heap.size < s.w.heap.size := Nat.lt_of_lt_of_le yl s.h.size
                            refine hp1.mono ?_
                            rintro r w8 ⟨rfl, hw8⟩
                            refine hK.out _ _ ?_
                            have m0 : w8.cell? ⟨wr.heap.size, 0, none⟩ = some (.int .i64 (A : Int)) := by rw [hw8]; exact (putW_far _ _ _ _ _ _ yls (by omega) (by omega)).trans k0
                            have m1 : w8.cell? ⟨wr.heap.size, 1, none⟩ = some (.int .i64 (B : Int)) := by rw [hw8]; exact (putW_far _ _ _ _ _ _ yls (by omega) (by omega)).trans k1
                            have yl8 : wr.heap.size < w8.heap.size := by rw [hw8]; exact Nat.lt_of_lt_of_le yls (putW_size _ _ _ _ _ _)
                            rw [← hw8] at SP
                            have x0' := SP.y.out A (by rw [HD.out.lh]; exact hAn)
                            have x1' := SP.y.cell (t := k) (by rw [HD.out.lh]; exact hAn) hkH
                            have lA' := (World.ownsRow.lt (SP.y.inn A (by rw [HD.out.lh]; exact hAn)) _ rfl).2
                            have lgo' := SP.y.lt
                            have HS8 := hideg SP
                            clear hw8 hp1 SP S6 k0 k1 yls hK K f0 f1 f2 f3 hne2 y0 y1 yl x0 x1 lA lgo
                            clear s
                            have hne3 : Nonempty (HeldIn w8) := ⟨⟨_, Below.refl _ _⟩⟩
                            have f0 : ∀ s : HeldIn w8, s.w.cell? ⟨wr.heap.size, 0, none⟩ = some (.int .i64 (A : Int)) := fun s => (s.h.cell (p := ⟨wr.heap.size, 0, none⟩) yl8).trans m0
                            have f1 : ∀ s : HeldIn w8, s.w.cell? ⟨wr.heap.size, 1, none⟩ = some (.int .i64 (B : Int)) := fun s => (s.h.cell (p := ⟨wr.heap.size, 1, none⟩) yl8).trans m1
                            have f2 := fun s : HeldIn w8 => (s.h.cell (p := ⟨goH, A, none⟩) lgo').trans x0'
                            have f3 := fun s : HeldIn w8 => (s.h.cell (p := ⟨bk bh A, k, none⟩) lA').trans x1'
                            go_wp2_with fail
                            refine wp_region_held_back _ (Below.refl _ _) (by kernel_rfl) (by simp) (by kernel_rfl) (by kernel_rfl) (by kernel_rfl) ?_
                            simp only [List.pop_toArray, List.dropLast, List.back!_toArray, List.getLast!]
                            repeat (go_big_quiet_step (fail))
                            refine wpQuiet_nil ?_
                            rintro _ ⟨s, rfl⟩
                            refine back_last (fun K hK => ?_)
                            go_simp
                            have S9 := HS8.out.below s.h
                            have hRn := ss_putB (a := (A, k, B, T, pc)) (b := (A, k, B, T, 1)) S9 HTC.out HTH.out HTP.out HTQ.out HPQ.out HD.out HmC.out HmH.out HokC.out HokH.out Hf0.out ⟨rfl, rfl, rfl, rfl⟩ hH1.2 (show src P (A, k, B, T, pc) ≠ 1099511627776 from hne) HGE.out
                            have hp2 := sums1_any w1.heap.size goH cH bh H Q B T (tat Q A k + 1) Bm _ s.w S9.y (by rw [HD.out.lh]; exact hBn) ok1 S9.m (S9.far.2.2 B hBn).2
                            rw [HD.out.lh] at hp2
                            refine hp2.mono ?_
                            rintro r w9 ⟨rfl, hw9⟩
                            refine hK.out _ _ ?_
                            have HRn : Hid (RS w1 n H goC goH bc bh Bm (firstT g (V : Int) (T0 : Int)) (allA g id H) (allA g (fun _ => 1) H) X Y (allA g id k ++ (waitA g k n ++ legA g id k (i + 1))) (allA g (fun _ => 1) k ++ (waitA g k n ++ legA g (fun _ => 1) k (i + 1))) w9) := by
                              show RS _ _ _ _ _ _ _ _ _ _ _ _ _ _ _ _
                              rw [HW.out, HW'.out, ← List.append_assoc (waitA g k n), ← List.append_assoc (waitA g k n), ← List.append_assoc (allA g id k), ← List.append_assoc (allA g (fun _ => 1) k), hw9]
                              exact hRn
                            clear hw9 hp2 hRn S9 hK K f0 f1 f2 f3 hne3 m0 m1 yl8 x0' x1' lA' lgo'
                            clear s
                            go_wp2
                            go_roundw
                            case rel => exact ⟨i + 1, by omega, by go_num, HRn.out⟩
                            case measure => simp [intOf]; omega
                          · have d1 : decide (tat P A k < 1099511627776) = false := by simpa using hinf
                            have hPi : tat P A k = 1099511627776 := by rcases HTP.out A k hAn hkH with e | e; exact e; omega
                            have hQi : tat Q A k = 1099511627776 := (HPQ.out A k hAn hkH).1 hPi
                            have HRn : Hid (RS w1 n H goC goH bc bh Bm (firstT g (V : Int) (T0 : Int)) (allA g id H) (allA g (fun _ => 1) H) X Y (allA g id k ++ (waitA g k n ++ legA g id k (i + 1))) (allA g (fun _ => 1) k ++ (waitA g k n ++ legA g (fun _ => 1) k (i + 1))) w7) := by
                              show RS _ _ _ _ _ _ _ _ _ _ _ _ _ _ _ _
                              rw [HW.out, HW'.out, ← List.append_assoc, ← List.append_assoc, ← List.append_assoc, ← List.append_assoc]
                              exact ⟨P, Q, cC', cH', HS.out, tn_inf (by rw [List.append_assoc]; exact HTC.out) (HokC.out _ HmC.out) Hf1.out hPi, tn_inf (by rw [List.append_assoc]; exact HTH.out) (HokH.out _ HmH.out) Hf1.out hQi, HTP.out, HTQ.out, HPQ.out⟩
                            clear hinf hPi hQi
                            go_wp2
                            go_roundw
                            case rel => exact ⟨i + 1, by omega, by go_num, HRn.out⟩
                            case measure => simp [intOf]; omega
                      · have hil : g.edges.length = i := by omega
                        have HRn : Hid (RS w1 n H goC goH bc bh Bm (firstT g (V : Int) (T0 : Int)) (allA g id H) (allA g (fun _ => 1) H) X Y (allA g id (k + 1)) (allA g (fun _ => 1) (k + 1)) wr) := by
                          show RS _ _ _ _ _ _ _ _ _ _ _ _ _ _ _ _
                          rw [allA, allA, ← HN.out, hil]; exact hRS
                        have hd6 : decide ((i : Int) < (g.edges.length : Int)) = false := by simp; omega
                        clear hRS
                        go_wp2
                        go_roundw
                        case rel => exact ⟨k + 1, by omega, by go_num, HRn.out⟩
                        case measure => simp [intOf]; omega
              · have hke : H = k := by omega
                subst hke
                obtain ⟨P, Q, cC', cH', hS, hTC, hTH, hTP, hTQ, hPQ⟩ := hRS
                have cm := hS.cell
                have fm := hS.frz
                have HFin : Hid ((∃ (Bm : Nat) (X Y : Tb) (ch : Bool), Value.pointer (some ⟨wr.heap.size, 0, none⟩) = .pointer (some ⟨Bm, 0, none⟩) ∧ SS w1 n H goC goH bc bh Bm X Y ch (wr.alloc (.cells #[.bool (cC' || cH')] 4)) ∧ JMid n H (firstT g (V : Int) (T0 : Int)) (allA g id H) X ∧ JMid n H (firstT g (V : Int) (T0 : Int)) (allA g (fun _ => 1) H) Y ∧ Tm n H X ∧ Tm n H Y ∧ Pr n H X Y ∧ (ch = false → JBest n H (firstT g (V : Int) (T0 : Int)) (allA g id H) X ∧ JBest n H (firstT g (V : Int) (T0 : Int)) (allA g (fun _ => 1) H) Y)) ∧ 2 * (tsum (rdT (wr.alloc (.cells #[.bool (cC' || cH')] 4)) bc H) + tsum (rdT (wr.alloc (.cells #[.bool (cC' || cH')] 4)) bh H)) + flagAt (wr.alloc (.cells #[.bool (cC' || cH')] 4)) (.pointer (some ⟨wr.heap.size, 0, none⟩)) < 2 * (tsum X + tsum Y) + 1) := by
                  have SB := ss_box hS.c hS.y HD.out hS.bel (cC' || cH')
                  refine ⟨⟨wr.heap.size, P, Q, cC' || cH', rfl, SB, hTC.mid, hTH.mid, hTP, hTQ, hPQ, fun hf => ?_⟩, ?_⟩
                  · rw [Bool.or_eq_false_iff] at hf
                    obtain ⟨rfl, rfl⟩ := hf
                    exact ⟨tn_end hTC, tn_end hTH⟩
                  · rw [SB.c.rd (by rw [hTC.mid.shp.rows, HD.out.lc]), SB.y.rd (by rw [hTH.mid.shp.rows, HD.out.lh]), SB.flag]
                    have s1 := hTC.sum
                    have s2 := hTH.sum
                    cases cC' with
                    | true => have := hTC.less rfl; simp; omega
                    | false =>
                      cases cH' with
                      | true => have := hTH.less rfl; simp; omega
                      | false => simp; omega
                clear hS hTC hTH hTP hTQ hPQ
                go_wp2_with fail
                rw [HMs.out]
                exact HFin.out

end Go.Proofs.Ytkgbgkcbflicmac

namespace Go.Proofs.Ytkgbgkcbflicmac
open Go.RowKit

/-- the first time at which a number is told, of the last j of h times -/
def arrG (f : Nat → Int) (h : Nat) : Nat → Int
  | 0 => 1099511627776
  | j + 1 => if f (h - (j + 1)) < 1099511627776 then ((h - (j + 1) : Nat) : Int) else arrG f h j
/-- of the first k vertices -/
def arrL (X : Tb) (h k : Nat) : List Int := (List.range k).map fun v => arrG (tat X v) h h
theorem arrL_succ (X : Tb) (h k : Nat) : (arrL X h (k + 1)).map (Value.int .i64) = (arrL X h k).map (Value.int .i64) ++ [.int .i64 (arrG (tat X k) h h)] := by simp [arrL, List.range_succ]
theorem arrL_len (X : Tb) (h k : Nat) : (arrL X h k).length = k := by simp [arrL]

set_option maxRecDepth 100000 in
set_option maxHeartbeats 4000000 in
theorem Arrivals_any (g : Gr) (la ea : Option Addr) (lc ec : Nat) (v t : Int) (w : World) (hG : GAt w la ea g) (hpl : placeE g v t = 0) :
    Calls Try.prog 17 #[.agg #[.int .i64 g.hor, .slice la g.lives.length lc, .slice ea g.edges.length ec], .int .i64 v, .int .i64 t] w fun r w' => ∃ u X Y, r = .returned u ∧ SumIs g v t X Y ∧ w'.ownsRow w.heap.size 3 1 u g.lives.length ((arrL X g.hor.toNat g.lives.length).map (Value.int .i64)) ∧ Below w.heap.size w w' := by
  obtain ⟨i0, hi, hz0, hz1, hz2⟩ := info_parts Try.infoInt
  have hR := gChk_right (placeE_zero hpl).1
  have hor := hR.hor
  have hlv := hR.lvs
  obtain ⟨H, hH⟩ : ∃ H : Nat, H = g.hor.toNat := ⟨_, rfl⟩
  obtain ⟨n, hn⟩ : ∃ n : Nat, n = g.lives.length := ⟨_, rfl⟩
  have hHi : g.hor = (H : Int) := by omega
  have hH1 : 1 ≤ H ∧ H ≤ 100 := by omega
  have hn12 : n ≤ 12 := by omega
  obtain ⟨w1, hw1⟩ : ∃ x, x = w.alloc (.cells #[.int .i64 g.hor, .slice la g.lives.length lc, .slice ea g.edges.length ec] 25) := ⟨_, rfl⟩
  have B1 : GBox w w1 w.heap.size g la ea lc ec := by rw [hw1]; exact gbox_start w g la ea lc ec _
  have hSm := Sums_any g la ea lc ec v t w1 (hG.below B1.bel) hpl
  have HSm := hideg hSm
  have HB1 := hideg B1
  have b0 := B1.c0
  have b1 := B1.c1
  have b2 := B1.c2
  have hw1s := hw1.symm
  rw [← hn, ← hH] at HSm ⊢
  rw [hHi] at HSm b0 hw1s ⊢
  rw [← hn] at b1 hw1s
  have HHi := hideg hHi
  have HN := hideg hn
  have HH := hideg hH
  clear hpl hR hG hw1 B1 hSm hHi hn hH hor hlv
  go_enter Try.func17, Try.ntmps17
  go_wp2_with fail
  clear hw1s
  refine HSm.out.mono ?_
  rintro r w2 ⟨goC, cC, goH, cH, bc, bh, X, Y, rfl, hMC, hMH, hlc, hlh, hSI, hb2⟩
  have B2 := HB1.out.below hb2
  have HB2 := hideg B2
  clear b0 b1 b2
  have b0 := B2.c0
  have b1 := B2.c1
  rw [HHi.out] at b0
  rw [← HN.out] at b1
  have HMC := hideg hMC
  have HSI := hideg hSI
  have HLC := hideg hlc
  have hs2 := hb2.size
  clear hMC hMH hlc hlh HSm HB1 B2 hb2 hSI
  go_wp2_with fail
  go_loopw [9, 10] (fun u i wr => ∃ k : Nat, k ≤ n ∧ i = .int .i64 k ∧ wr.ownsRow w2.heap.size 3 1 u k ((arrL X H k).map (Value.int .i64)) ∧ Below w2.heap.size w2 wr) (fun _ i _ => n - (intOf i).toNat)
  case atStart => exact ⟨0, Nat.zero_le _, rfl, World.ownsRow_nil _ _ _ _, Below.refl _ _⟩
  case round =>
    clear b0 b1
    obtain ⟨k, hk, rfl, hown, hb⟩ := hrel
    have BR := HB2.out.below hb
    have b0 := BR.c0
    have b1 := BR.c1
    rw [HHi.out] at b0
    rw [← HN.out] at b1
    have hsz := hb.size
    by_cases hkn : k < n
    · have MR := HMC.out.below hb
      have x0 := MR.out k (by rw [HLC.out]; exact hkn)
      have HX1 := hideg (fun t (ht : t < H) => MR.cell (v := k) (by rw [HLC.out]; exact hkn) ht)
      have hki : (k : Int) < (n : Int) := by omega
      have hwH : IntKind.i64.wrap ((H : Int) - 1) = (H : Int) - 1 := wrap_nr _ (by omega) (by omega)
      have HOwn := hideg hown
      have HBb := hideg hb
      have HSu := hideg (arrL_succ X H k)
      clear MR BR hown hb
      go_wp2_with fail
      go_loopw [11, 12] (fun nn tt wq => ∃ j : Nat, j ≤ H ∧ tt = .int .i64 ((H : Int) - 1 - j) ∧ nn = .int .i64 (arrG (tat X k) H j) ∧ wq = wr) (fun _ tt _ => (intOf tt + 1).toNat)
      case atStart => exact ⟨0, Nat.zero_le _, by simp, rfl, rfl⟩
      case round =>
        obtain ⟨j, hj, rfl, rfl, rfl⟩ := hrel
        by_cases hjH : j < H
        · obtain ⟨q, hq⟩ : ∃ q : Nat, (H : Int) - 1 - j = (q : Int) := ⟨H - (j + 1), by omega⟩
          have hqH : q < H := by omega
          have x1 := HX1.out q hqH
          have hqi : (q : Int) < (H : Int) := by omega
          have hq0 : (0 : Int) ≤ (q : Int) := by omega
          have hqn : H - (j + 1) = q := by omega
          have hww : IntKind.i64.wrap ((q : Int) - 1) = (q : Int) - 1 := wrap_nr _ (by omega) (by omega)
          rw [hq]
          by_cases hlt : tat X k q < 1099511627776
          · have d1 : decide (tat X k q < 1099511627776) = true := by simpa using hlt
            have HA : Hid (arrG (tat X k) H (j + 1) = (q : Int)) := by show _ = _; rw [arrG, hqn, if_pos hlt]
            clear hlt hqn
            go_wp2
            go_roundw
            case rel => exact ⟨j + 1, by omega, by simp; omega, by rw [HA.out], by first | rfl | trivial⟩
            case measure => simp [intOf] <;> omega
          · have d1 : decide (tat X k q < 1099511627776) = false := by simpa using hlt
            have HA : Hid (arrG (tat X k) H (j + 1) = arrG (tat X k) H j) := by show _ = _; rw [arrG, hqn, if_neg hlt]
            clear hlt hqn
            go_wp2
            go_roundw
            case rel => exact ⟨j + 1, by omega, by simp; omega, by rw [HA.out], by first | rfl | trivial⟩
            case measure => simp [intOf] <;> omega
        · have hje : H = j := by omega
          subst hje
          rw [show (H : Int) - 1 - (H : Int) = -1 from by omega]
          generalize arrG (tat X k) H H = m at HSu ⊢
          have hown := HOwn.out
          have hkw : IntKind.i64.wrap ((k : Int) + 1) = (k : Int) + 1 := wrap_nr _ (by omega) (by omega)
          clear x0 HX1 b0 b1
          go_wp2_with (at_builtin; refine wpList_append_own _ rfl _ _ 28 rfl w2.heap.size 3 i0 (.int .i64 0) 1 8 Try.underlying28 hi hz0 hz1 hz2 rfl (by decide) _ _ _ rfl (World.ownsRow.alloc (w := wr) hown _) ⟨wr.heap.size, 0, none⟩ 1 1 [.int .i64 m] rfl rfl (cell_one_new _ _ _) (by intro u hu; simp at hu; subst hu; rfl) (by unfold maxLen; omega) (by omega) (by simp; omega) ?_; intro v' w5 hown5 hgrow _)
          have hb5 := (HBb.out.alloc hsz _).grown hgrow (by simp; omega) (fun q hq => (hown.lt q hq).1)
          exact ⟨⟨k + 1, by omega, by go_num, by rw [HSu.out]; exact hown5, hb5⟩, by simp [intOf]; omega⟩
    · have hke : n = k := by omega
      subst hke
      have HO := hideg hown
      have HBb := hideg hb
      clear hown hb
      go_wp2
      go_ret
      exact ⟨_, X, Y, rfl, HSI.out, owns_base2 HO.out HB2.out.bel.size, (HB2.out.below HBb.out).bel⟩

end Go.Proofs.Ytkgbgkcbflicmac

namespace Go.Proofs.Ytkgbgkcbflicmac
open Go.RowKit

open Classical in
noncomputable def arrF (g : Gr) (v t : Int) : List Int := if h : ∃ p : Tb × Tb, SumIs g v t p.1 p.2 then arrL (Classical.choose h).1 g.hor.toNat g.lives.length else []
theorem arrF_eq {g : Gr} {v t : Int} {X Y : Tb} (S : SumIs g v t X Y) : arrF g v t = arrL X g.hor.toNat g.lives.length := by
  have h : ∃ p : Tb × Tb, SumIs g v t p.1 p.2 := ⟨(X, Y), S⟩
  unfold arrF
  rw [dif_pos h, jbest_unique (Classical.choose_spec h).costs S.costs]
theorem arrG_range (f : Nat → Int) (h : Nat) : ∀ j, j ≤ h → arrG f h j = 1099511627776 ∨ (0 ≤ arrG f h j ∧ arrG f h j < (h : Int))
  | 0, _ => .inl rfl
  | j + 1, hj => by
    rw [arrG]
    split
    · right; omega
    · exact arrG_range f h j (by omega)
theorem arrL_get (X : Tb) (h k v : Nat) (hv : v < k) : (arrL X h k).getD v 0 = arrG (tat X v) h h := by simp [arrL, List.getD_eq_getElem?_getD, hv]
theorem placeE_of {g : Gr} {v t : Int} (h : gChk g = 0) (h1 : 0 ≤ v ∧ v < (g.lives.length : Int)) (h2 : 0 ≤ t ∧ t < g.hor) : placeE g v t = 0 := by
  unfold placeE
  rw [if_pos h, if_pos ((inR_iff _ _ _).2 ⟨h1.1, by omega⟩), if_pos ((inR_iff _ _ _).2 ⟨h2.1, by omega⟩)]

theorem Arr_fn (g : Gr) (la ea : Option Addr) (lc ec : Nat) (v t : Int) (w : World) (hG : GAt w la ea g) (hpl : placeE g v t = 0) :
    Calls Try.prog 17 #[.agg #[.int .i64 g.hor, .slice la g.lives.length lc, .slice ea g.edges.length ec], .int .i64 v, .int .i64 t] w fun r w' => ∃ gq cap, r = .returned (.slice (some ⟨gq, 0, none⟩) g.lives.length cap) ∧ Zo w' w.heap.size gq g.lives.length cap (arrF g v t) ∧ (∀ q, q < g.lives.length → (arrF g v t).getD q 0 = 1099511627776 ∨ (0 ≤ (arrF g v t).getD q 0 ∧ (arrF g v t).getD q 0 < g.hor)) ∧ Below w.heap.size w w' := by
  refine (Arrivals_any g la ea lc ec v t w hG hpl).mono ?_
  rintro r w' ⟨u, X, Y, rfl, S, hown, hb⟩
  obtain ⟨h0, hv, ht⟩ := placeE_zero hpl
  have hor := (gChk_right h0).hor
  rw [← arrF_eq S] at hown
  rcases hown.2 with ⟨_, h0⟩ | ⟨ga, ca, cur, e, _⟩
  · omega
  subst e
  refine ⟨ga, ca, rfl, hown, fun q hq => ?_, hb⟩
  rw [arrF_eq S, arrL_get _ _ _ _ hq]
  rcases arrG_range (tat X q) g.hor.toNat g.hor.toNat (Nat.le_refl _) with e | e
  · exact .inl e
  · right; omega

end Go.Proofs.Ytkgbgkcbflicmac

namespace Go.Proofs.Ytkgbgkcbflicmac
open Go.RowKit

/-- the latest of the first k times at which one may be at v, to be at q by d -/
noncomputable def depG (g : Gr) (q d v : Nat) : Nat → Int
  | 0 => -1
  | k + 1 => if aliveB (k : Int) g.lives (v : Int) = true ∧ (arrF g v k).getD q 0 ≤ (d : Int) then (k : Int) else depG g q d v k
noncomputable def depV (g : Gr) (q d v : Nat) : Int := if aliveB (d : Int) g.lives (q : Int) = true then depG g q d v (d + 1) else -1
noncomputable def depL (g : Gr) (q d k : Nat) : List Int := (List.range k).map fun v => depV g q d v
theorem depL_succ (g : Gr) (q d k : Nat) : (depL g q d (k + 1)).map (Value.int .i64) = (depL g q d k).map (Value.int .i64) ++ [.int .i64 (depV g q d k)] := by simp [depL, List.range_succ]

end Go.Proofs.Ytkgbgkcbflicmac

namespace Go.Proofs.Ytkgbgkcbflicmac
open Go.RowKit

theorem arrG_spec (f : Nat → Int) (h : Nat) : ∀ j, j ≤ h → (arrG f h j = 1099511627776 ∨ ∃ t, t < h ∧ arrG f h j = (t : Int) ∧ f t < 1099511627776) ∧ ∀ t, h - j ≤ t → t < h → f t < 1099511627776 → arrG f h j ≤ (t : Int)
  | 0, _ => ⟨.inl rfl, fun t h1 h2 _ => by omega⟩
  | j + 1, hj => by
    obtain ⟨h1, h2⟩ := arrG_spec f h j (by omega)
    rw [arrG]
    split
    · rename_i hf
      exact ⟨.inr ⟨h - (j + 1), by omega, rfl, hf⟩, fun t k1 k2 k3 => by omega⟩
    · rename_i hf
      refine ⟨h1, fun t k1 k2 k3 => ?_⟩
      by_cases e : t = h - (j + 1)
      · subst e; exact absurd k3 hf
      · exact h2 t (by omega) k2 k3
theorem list_ext_getD {a b : List Int} (h : a.length = b.length) (k : ∀ v, v < a.length → a.getD v 0 = b.getD v 0) : a = b := by
  apply List.ext_getElem h
  intro v h1 h2
  have := k v h1
  rw [List.getD_eq_getElem?_getD, List.getD_eq_getElem?_getD, List.getElem?_eq_getElem h1, List.getElem?_eq_getElem h2] at this
  exact this
theorem arr_is {g : Gr} (R : Right g) {v t : Int} (h0 : 0 ≤ v) {X Y : Tb} (S : SumIs g v t X Y) : arrL X g.hor.toNat g.lives.length = (erF g v t).1 := by
  have hh := R.hor
  have hr := sum_reach R (pr := id) (fun c h1 h2 => ⟨h1, h2⟩) h0 S.costs S.tmX
  refine list_ext_getD (by rw [arrL_len, (erF_len g v t).1]) fun x hx => ?_
  rw [arrL_len] at hx
  rw [arrL_get _ _ _ _ hx]
  obtain ⟨a1, a2⟩ := arrG_spec (tat X x) g.hor.toNat g.hor.toNat (Nat.le_refl _)
  by_cases ha : aliveB t g.lives v = true
  · obtain ⟨E, L⟩ := erF_ok R h0 ha
    rcases E.is x hx with e | e
    · rcases a1 with k | ⟨y, k1, k2, k3⟩
      · rw [k, e]
      · have := L x y ((hr x y hx k1).1 k3)
        simp only [Int.toNat_natCast] at this
        omega
    · have hp := e.place R h0
      generalize hz : (erF g v t).1.getD x 0 = z at *
      have e2 : z = ((z.toNat : Nat) : Int) := by omega
      have h1 := a2 z.toNat (by omega) (by omega) ((hr x z.toNat hx (by omega)).2 (by rw [← e2]; exact e))
      rcases a1 with k | ⟨y, k1, k2, k3⟩
      · omega
      · have := L x y ((hr x y hx k1).1 k3)
        simp only [Int.toNat_natCast] at this
        omega
  · rw [erF_away ha, rep_getD _ _ _ hx]
    rcases a1 with k | ⟨y, k1, k2, k3⟩
    · exact k
    · exact absurd ((hr x y hx k1).1 k3).src ha
theorem calls_some {P : Program} {f : FuncId} {args : Array Value} {w : World} {Q : Ending → World → Prop} (h : Calls P f args w Q) : ∃ e w', Q e w' := by
  obtain ⟨e, w', _, h, _⟩ := h []
  exact ⟨e, w', h⟩
theorem arrF_is {g : Gr} {la ea : Option Addr} {w : World} (hG : GAt w la ea g) {v t : Int} (hp : placeE g v t = 0) : arrF g v t = (erF g v t).1 := by
  obtain ⟨_, _, u, X, Y, _, S, _⟩ := calls_some (Arrivals_any g la ea 0 0 v t w hG hp)
  obtain ⟨h0, hv, ht⟩ := placeE_zero hp
  rw [arrF_eq S]
  exact arr_is (gChk_right h0) hv.1 S

theorem depG_spec (g : Gr) (q d v : Nat) : ∀ k, (depG g q d v k = -1 ∨ ∃ t, t < k ∧ depG g q d v k = ((t : Nat) : Int) ∧ aliveB (t : Int) g.lives (v : Int) = true ∧ (arrF g v t).getD q 0 ≤ (d : Int)) ∧ ∀ t : Nat, t < k → aliveB (t : Int) g.lives (v : Int) = true → (arrF g v t).getD q 0 ≤ (d : Int) → (t : Int) ≤ depG g q d v k
  | 0 => ⟨.inl rfl, fun t h => by omega⟩
  | k + 1 => by
    obtain ⟨h1, h2⟩ := depG_spec g q d v k
    rw [depG]
    split
    · rename_i h
      exact ⟨.inr ⟨k, by omega, rfl, h⟩, fun t k1 _ _ => by omega⟩
    · rename_i h
      refine ⟨?_, fun t k1 k2 k3 => ?_⟩
      · rcases h1 with e | ⟨t, e1, e2⟩
        · exact .inl e
        · exact .inr ⟨t, by omega, e2⟩
      · by_cases e : t = k
        · subst e; exact absurd ⟨k2, k3⟩ h
        · exact h2 t (by omega) k2 k3
theorem dep_is {g : Gr} {la ea : Option Addr} {w : World} (hG : GAt w la ea g) {q d : Nat} (hp : placeE g q d = 0) : depL g q d g.lives.length = ltF g q d := by
  obtain ⟨h0, hq, hd⟩ := placeE_zero hp
  have R := gChk_right h0
  refine list_ext_getD (by rw [ltF_len]; simp [depL]) fun x hx => ?_
  have hx : x < g.lives.length := by simpa [depL] using hx
  have e1 : (depL g q d g.lives.length).getD x 0 = depV g q d x := by simp [depL, List.getD_eq_getElem?_getD, hx]
  rw [e1]
  unfold depV
  by_cases ha : aliveB (d : Int) g.lives (q : Int) = true
  · rw [if_pos ha]
    obtain ⟨E, L⟩ := ltF_ok R (q := (q : Int)) (d := (d : Int)) (by omega) ha
    obtain ⟨a1, a2⟩ := depG_spec g q d x (d + 1)
    have hA : ∀ t : Nat, (t : Int) < g.hor → arrF g x t = (erF g x t).1 := fun t ht => arrF_is hG (placeE_of h0 ⟨by omega, by omega⟩ ⟨by omega, ht⟩)
    have hc : ∀ t : Nat, t < d + 1 → ((aliveB (t : Int) g.lives (x : Int) = true ∧ (arrF g x t).getD q 0 ≤ (d : Int)) ↔ Rch g x t q d) := fun t ht => by
      rw [hA t (by omega)]
      constructor
      · rintro ⟨k1, k2⟩
        obtain ⟨E1, _⟩ := erF_ok R (v := (x : Int)) (t := (t : Int)) (by omega) k1
        rcases E1.is q (by omega) with e | e
        · have := R.hor; omega
        · exact e.waits R k2 ha
      · intro k
        have := (erF_ok R (v := (x : Int)) (t := (t : Int)) (by omega) k.src).2 _ _ k
        exact ⟨k.src, by simpa using this⟩
    rcases E.is x hx with e | e
    · rw [e]
      rcases a1 with k | ⟨t, k1, k2, k3⟩
      · exact k
      · have := L x t (by omega) ((hc t k1).1 k3)
        simp only [Int.toNat_natCast] at this
        omega
    · have hp2 := alive_hor R e.src
      have hle := e.le R
      generalize hz : (ltF g q d).getD x 0 = z at *
      have e2 : z = ((z.toNat : Nat) : Int) := by omega
      rw [e2] at e
      have k0 := (hc z.toNat (by omega)).2 e
      have h1 := a2 z.toNat (by omega) k0.1 k0.2
      rcases a1 with k | ⟨t, k1, k2, k3⟩
      · omega
      · have := L x t (by omega) ((hc t k1).1 k3)
        simp only [Int.toNat_natCast] at this
        omega
  · rw [if_neg ha, ltF_away ha, rep_getD _ _ _ hx]

end Go.Proofs.Ytkgbgkcbflicmac

namespace Go.Proofs.Ytkgbgkcbflicmac
open Go.RowKit

/-- the least of the first j numbers -/
def minG (f : Nat → Int) : Nat → Int
  | 0 => 1099511627776
  | j + 1 => min (minG f j) (f j)
def lstL (X : Tb) (h k : Nat) : List Int := (List.range k).map fun v => minG (tat X v) h
theorem lstL_succ (X : Tb) (h k : Nat) : (lstL X h (k + 1)).map (Value.int .i64) = (lstL X h k).map (Value.int .i64) ++ [.int .i64 (minG (tat X k) h)] := by simp [lstL, List.range_succ]

set_option maxRecDepth 100000 in
set_option maxHeartbeats 4000000 in
theorem Least_any (base go cap : Nat) (bl : List (Nat × Nat)) (h n : Nat) (X : Tb) (w : World) (M : TabM w base go bl h X) (hn : bl.length = n) (hh : h ≤ 100) (hn12 : n ≤ 12) :
    Calls Try.prog 8 #[.slice (some ⟨go, 0, none⟩) n cap] w fun r w' => ∃ u, r = .returned u ∧ w'.ownsRow w.heap.size 3 1 u n ((lstL X h n).map (Value.int .i64)) ∧ Below w.heap.size w w' := by
  obtain ⟨i0, hi, hz0, hz1, hz2⟩ := info_parts Try.infoInt
  have HM := hideg M
  have HN := hideg hn
  clear M hn
  go_enter Try.func8, Try.ntmps8
  go_wp2_with fail
  go_loopw [3, 4] (fun u i wr => ∃ k : Nat, k ≤ n ∧ i = .int .i64 k ∧ wr.ownsRow w.heap.size 3 1 u k ((lstL X h k).map (Value.int .i64)) ∧ Below w.heap.size w wr) (fun _ i _ => n - (intOf i).toNat)
  case atStart => exact ⟨0, Nat.zero_le _, rfl, World.ownsRow_nil _ _ _ _, Below.refl _ _⟩
  case round =>
    obtain ⟨k, hk, rfl, hown, hb⟩ := hrel
    have hsz := hb.size
    by_cases hkn : k < n
    · have MR := HM.out.below hb
      have x0 := MR.out k (by rw [HN.out]; exact hkn)
      have HX1 := hideg (fun t (ht : t < h) => MR.cell (v := k) (by rw [HN.out]; exact hkn) ht)
      have hki : (k : Int) < (n : Int) := by omega
      have HOwn := hideg hown
      have HBb := hideg hb
      have HSu := hideg (lstL_succ X h k)
      clear MR hown hb
      go_wp2_with fail
      go_loopw [5, 6] (fun nn tt wq => ∃ j : Nat, j ≤ h ∧ tt = .int .i64 j ∧ nn = .int .i64 (minG (tat X k) j) ∧ wq = wr) (fun _ tt _ => h - (intOf tt).toNat)
      case atStart => exact ⟨0, Nat.zero_le _, rfl, rfl, rfl⟩
      case round =>
        obtain ⟨j, hj, rfl, rfl, rfl⟩ := hrel
        by_cases hjH : j < h
        · have x1 := HX1.out j hjH
          have hji : (j : Int) < (h : Int) := by omega
          have HA : Hid (minG (tat X k) (j + 1) = min (minG (tat X k) j) (tat X k j)) := rfl
          have hwj : IntKind.i64.wrap ((j : Int) + 1) = (j : Int) + 1 := wrap_nr _ (by omega) (by omega)
          generalize minG (tat X k) j = m0 at HA ⊢
          generalize tat X k j = m1 at HA x1 ⊢
          by_cases hlt : m1 < m0
          · have HM2 : Hid (min m0 m1 = m1) := by show _ = _; omega
            go_wp2
            go_roundw
            case rel => exact ⟨j + 1, by omega, by go_num, by rw [HA.out, HM2.out], by first | rfl | trivial⟩
            case measure => simp [intOf]; omega
          · have HM2 : Hid (min m0 m1 = m0) := by show _ = _; omega
            go_wp2
            go_roundw
            case rel => exact ⟨j + 1, by omega, by go_num, by rw [HA.out, HM2.out], by first | rfl | trivial⟩
            case measure => simp [intOf]; omega
        · have hje : h = j := by omega
          subst hje
          generalize minG (tat X k) h = m at HSu ⊢
          have hown := HOwn.out
          have hkw : IntKind.i64.wrap ((k : Int) + 1) = (k : Int) + 1 := wrap_nr _ (by omega) (by omega)
          go_wp2_with (at_builtin; refine wpList_append_own _ rfl _ _ 28 rfl w.heap.size 3 i0 (.int .i64 0) 1 8 Try.underlying28 hi hz0 hz1 hz2 rfl (by decide) _ _ _ rfl (World.ownsRow.alloc (w := wr) hown _) ⟨wr.heap.size, 0, none⟩ 1 1 [.int .i64 m] rfl rfl (cell_one_new _ _ _) (by intro u hu; simp at hu; subst hu; rfl) (by unfold maxLen; omega) (by omega) (by simp; omega) ?_; intro v' w5 hown5 hgrow _)
          have hb5 := (HBb.out.alloc hsz _).grown hgrow (by simp; omega) (fun q hq => (hown.lt q hq).1)
          exact ⟨⟨k + 1, by omega, by go_num, by rw [HSu.out]; exact hown5, hb5⟩, by simp [intOf]; omega⟩
    · have hke : n = k := by omega
      subst hke
      have HO := hideg hown
      have HBb := hideg hb
      clear hown hb
      go_wp2
      go_ret
      exact ⟨_, rfl, HO.out, HBb.out⟩

end Go.Proofs.Ytkgbgkcbflicmac

namespace Go.Proofs.Ytkgbgkcbflicmac
open Go.RowKit

/-- the shortest time from one vertex to another of the first k starts, and that start -/
noncomputable def fstF (g : Gr) (v q : Nat) : Nat → Int × Int
  | 0 => (1099511627776, 0)
  | k + 1 => if (arrF g v k).getD q 0 < 1099511627776 ∧ (arrF g v k).getD q 0 - k < (fstF g v q k).1 then ((arrF g v k).getD q 0 - k, (k : Int)) else fstF g v q k
noncomputable def fstA (g : Gr) (v q : Nat) : Value := if (fstF g v q g.hor.toNat).1 = 1099511627776 then .tuple #[.int .i64 0, .int .i64 0, .int .i64 4] else .tuple #[.int .i64 (fstF g v q g.hor.toNat).1, .int .i64 (fstF g v q g.hor.toNat).2, .int .i64 0]

set_option maxRecDepth 100000 in
set_option maxHeartbeats 4000000 in
theorem Fastest_any (g : Gr) (la ea : Option Addr) (lc ec : Nat) (v q : Nat) (w : World) (hG : GAt w la ea g) (hg0 : gChk g = 0) (hv : v < g.lives.length) (hq : q < g.lives.length) :
    Calls Try.prog 14 #[.agg #[.int .i64 g.hor, .slice la g.lives.length lc, .slice ea g.edges.length ec], .int .i64 v, .int .i64 q] w fun r w' => r = .returned (fstA g v q) ∧ Below w.heap.size w w' := by
  have hR := gChk_right hg0
  have hor := hR.hor
  have hlv := hR.lvs
  obtain ⟨H, hH⟩ : ∃ H : Nat, H = g.hor.toNat := ⟨_, rfl⟩
  obtain ⟨n, hn⟩ : ∃ n : Nat, n = g.lives.length := ⟨_, rfl⟩
  have hHi : g.hor = (H : Int) := by omega
  have hH1 : 1 ≤ H ∧ H ≤ 100 := by omega
  have hn12 : n ≤ 12 := by omega
  have hqn : q < n := by omega
  obtain ⟨w1, hw1⟩ : ∃ x, x = w.alloc (.cells #[.int .i64 g.hor, .slice la g.lives.length lc, .slice ea g.edges.length ec] 25) := ⟨_, rfl⟩
  have B1 : GBox w w1 w.heap.size g la ea lc ec := by rw [hw1]; exact gbox_start w g la ea lc ec _
  have hAr : ∀ (k : Nat) (W : World), k < H → Below w1.heap.size w1 W → Calls Try.prog 17 #[.agg #[.int .i64 (H : Int), .slice la n lc, .slice ea g.edges.length ec], .int .i64 v, .int .i64 k] W fun r w' => ∃ gq cap, r = .returned (.slice (some ⟨gq, 0, none⟩) n cap) ∧ Zo w' W.heap.size gq n cap (arrF g v k) ∧ (∀ q, q < n → (arrF g v k).getD q 0 = 1099511627776 ∨ (0 ≤ (arrF g v k).getD q 0 ∧ (arrF g v k).getD q 0 < (H : Int))) ∧ Below W.heap.size W w' := fun k W hk hb => by
    have := Arr_fn g la ea lc ec v k W (hG.below (B1.below hb).bel) (placeE_of hg0 ⟨by omega, by omega⟩ ⟨by omega, by omega⟩)
    rw [← hn, hHi] at this
    exact this
  have HAr := hideg hAr
  have HB1 := hideg B1
  have b0 := B1.c0
  have b1 := B1.c1
  have b2 := B1.c2
  have hw1s := hw1.symm
  have HA : Hid (fstA g v q = if (fstF g v q H).1 = 1099511627776 then .tuple #[.int .i64 0, .int .i64 0, .int .i64 4] else .tuple #[.int .i64 (fstF g v q H).1, .int .i64 (fstF g v q H).2, .int .i64 0]) := by show _ = _; unfold fstA; rw [← hH]
  rw [hHi] at b0 hw1s ⊢
  rw [← hn] at b1 hw1s ⊢
  have HHi := hideg hHi
  have HN := hideg hn
  clear hG hg0 hR hw1 B1 hAr hHi hn hH hor hlv hv hq
  generalize fstA g v q = ans at *
  go_enter Try.func14, Try.ntmps14
  go_wp2_with fail
  clear hw1s
  go_loopw [9, 10, 11] (fun b a i wr => ∃ k : Nat, k ≤ H ∧ i = .int .i64 k ∧ b = .int .i64 (fstF g v q k).1 ∧ a = .int .i64 (fstF g v q k).2 ∧ Below w1.heap.size w1 wr) (fun _ _ i _ => H - (intOf i).toNat)
  case atStart => exact ⟨0, Nat.zero_le _, rfl, rfl, rfl, Below.refl _ _⟩
  case round =>
    clear b0 b1 b2
    obtain ⟨k, hk, rfl, rfl, rfl, hb⟩ := hrel
    have BR := HB1.out.below hb
    have b0 := BR.c0
    have b1 := BR.c1
    have b2 := BR.c2
    rw [HHi.out] at b0
    rw [← HN.out] at b1
    have HBb := hideg hb
    by_cases hkH : k < H
    · have HC := hideg (HAr.out k wr hkH hb)
      have hki : (k : Int) < (H : Int) := by omega
      have hkw : IntKind.i64.wrap ((k : Int) + 1) = (k : Int) + 1 := wrap_nr _ (by omega) (by omega)
      have hqi : (q : Int) < (n : Int) := by omega
      have HS : Hid (fstF g v q (k + 1) = if (arrF g v k).getD q 0 < 1099511627776 ∧ (arrF g v k).getD q 0 - k < (fstF g v q k).1 then ((arrF g v k).getD q 0 - k, (k : Int)) else fstF g v q k) := rfl
      clear BR hb
      generalize fstF g v q k = bb at HS ⊢
      obtain ⟨best, at0⟩ := bb
      simp only at HS ⊢
      go_wp2_with fail
      refine HC.out.mono ?_
      rintro r w3 ⟨gq, cap, rfl, hZ, hx, hb3⟩
      have x1 := hZ.cell hqn
      have hxr := hx q hqn
      have HB3 := hideg (HBb.out.trans (hb3.mono HBb.out.size))
      clear HC hZ hx hb3 b0 b1 b2
      generalize (arrF g v k).getD q 0 = x at HS x1 hxr
      have hwx : IntKind.i64.wrap (x - (k : Int)) = x - (k : Int) := wrap_nr _ (by omega) (by omega)
      by_cases h1 : x < 1099511627776
      · have d1 : decide (x < 1099511627776) = true := by simpa using h1
        by_cases h2 : x - (k : Int) < best
        · have d2 : decide (x - (k : Int) < best) = true := by simpa using h2
          have HS2 : Hid (fstF g v q (k + 1) = (x - (k : Int), (k : Int))) := by show _ = _; rw [HS.out, if_pos ⟨h1, h2⟩]
          clear HS hxr h1 h2
          go_wp2
          go_roundw
          case rel => exact ⟨k + 1, by omega, by go_num, by rw [HS2.out], by rw [HS2.out], HB3.out⟩
          case measure => simp [intOf]; omega
        · have d2 : decide (x - (k : Int) < best) = false := by simpa using h2
          have HS2 : Hid (fstF g v q (k + 1) = (best, at0)) := by show _ = _; rw [HS.out, if_neg (fun h => h2 h.2)]
          clear HS hxr h1 h2
          go_wp2
          go_roundw
          case rel => exact ⟨k + 1, by omega, by go_num, by rw [HS2.out], by rw [HS2.out], HB3.out⟩
          case measure => simp [intOf]; omega
      · have d1 : decide (x < 1099511627776) = false := by simpa using h1
        have HS2 : Hid (fstF g v q (k + 1) = (best, at0)) := by show _ = _; rw [HS.out, if_neg (fun h => h1 h.1)]
        clear HS hxr h1
        go_wp2
        go_roundw
        case rel => exact ⟨k + 1, by omega, by go_num, by rw [HS2.out], by rw [HS2.out], HB3.out⟩
        case measure => simp [intOf]; omega
    · have hke : H = k := by omega
      subst hke
      have HF := hideg BR.bel
      clear BR hb
      generalize fstF g v q H = bb at HA ⊢
      obtain ⟨best, at0⟩ := bb
      simp only at HA ⊢
      by_cases h1 : best = 1099511627776
      · have HA2 : Hid (ans = .tuple #[.int .i64 0, .int .i64 0, .int .i64 4]) := by show _ = _; rw [HA.out, if_pos h1]
        have d1 : (best == 1099511627776) = true := by simpa using h1
        clear h1 HA
        go_wp2
        go_ret3
        exact ⟨by rw [HA2.out]; rfl, HF.out⟩
      · have HA2 : Hid (ans = .tuple #[.int .i64 best, .int .i64 at0, .int .i64 0]) := by show _ = _; rw [HA.out, if_neg h1]
        have d1 : (best == 1099511627776) = false := by simpa using h1
        clear h1 HA
        go_wp2
        go_ret3
        exact ⟨by rw [HA2.out]; rfl, HF.out⟩

end Go.Proofs.Ytkgbgkcbflicmac

namespace Go.Proofs.Ytkgbgkcbflicmac
open Go.RowKit

theorem least_nat {p : Nat → Prop} (h : ∃ n, p n) : ∃ n, p n ∧ ∀ m, p m → n ≤ m := by
  obtain ⟨n, hn⟩ := h
  induction n using Nat.strongRecOn with
  | _ n ih =>
    by_cases h : ∃ m, m < n ∧ p m
    · obtain ⟨m, h1, h2⟩ := h
      exact ih m h1 h2
    · exact ⟨n, hn, fun m hm => Nat.le_of_not_lt fun h' => h ⟨m, h', hm⟩⟩
theorem minG_spec (f : Nat → Int) : ∀ j, (∀ t, t < j → minG f j ≤ f t) ∧ (minG f j = 1099511627776 ∨ ∃ t, t < j ∧ minG f j = f t) ∧ minG f j ≤ 1099511627776
  | 0 => ⟨fun t h => by omega, .inl rfl, Int.le_refl _⟩
  | j + 1 => by
    obtain ⟨h1, h2, h3⟩ := minG_spec f j
    rw [minG]
    refine ⟨fun t ht => ?_, ?_, by omega⟩
    · by_cases e : t = j
      · subst e; omega
      · have := h1 t (by omega); omega
    · rcases Int.le_total (minG f j) (f j) with k | k
      · rw [Int.min_eq_left k]
        rcases h2 with h2 | ⟨t, k1, k2⟩
        · exact .inl h2
        · exact .inr ⟨t, by omega, k2⟩
      · rw [Int.min_eq_right k]; exact .inr ⟨j, by omega, rfl⟩
theorem pay_wait {g : Gr} {pr : Ri → Int} {v t x y p : Int} (h : Pay g pr v t x y p) (ha : aliveB (y + 1) g.lives x = true) : Pay g pr v t x (y + 1) p := ⟨h.1, .wait h.2 ha⟩
theorem pay_ride {g : Gr} (R : Right g) {pr : Ri → Int} {v t y p : Int} {j : Nat} (hj : j < g.edges.length) (h : Pay g pr v t g.edges[j].1 y p) (hy : 0 ≤ y) {q : Int × Int} (hq : lands g g.edges[j] y = some q) : Pay g pr v t g.edges[j].2.1 q.1 (p + pr ((j : Int), y, g.edges[j].1, g.edges[j].2.1, q.1, q.2)) := ⟨h.1, .ride (ride_mem R hj hy hq) h.2⟩
/-- no journey costs less than what Sums tells -/
theorem sum_below {g : Gr} (R : Right g) {pr : Int → Int} {v t : Int} (h0 : 0 ≤ v) {X : Tb} (B : JBest g.lives.length g.hor.toNat (firstT g v t) (allA g pr g.hor.toNat) X) {x y p : Int} (h : Pay g (fun r => pr r.2.2.2.2.2) v t x y p) : tat X x.toNat y.toNat ≤ p := by
  obtain ⟨ha, h⟩ := h
  have hF := F1_ok (g := g) h0 ha
  induction h with
  | @base x y p h =>
    have hv := alive_hor R ha
    unfold F1 at h
    split at h
    · rename_i e
      obtain ⟨rfl, rfl⟩ := e
      cases h
      have := B.mid.le x.toNat y.toNat hv.1 (by omega)
      unfold firstT at this
      rw [if_pos ⟨ha, by omega, by omega⟩] at this
      exact this
    · cases h
  | @wait x y p h hal ih =>
    have hp := h.place R hF
    have hp2 := alive_hor R hal
    have hmem : (x.toNat, y.toNat, x.toNat, y.toNat + 1, (0 : Int)) ∈ allA g pr g.hor.toNat := mem_allA.2 ⟨y.toNat, by omega, .inl (mem_waitA.2 ⟨x.toNat, by omega, by omega, by rw [show ((y.toNat : Nat) : Int) = y by omega, show ((x.toNat : Nat) : Int) = x by omega]; exact hal, rfl⟩)⟩
    have hc := B.cl _ hmem
    unfold dst src at hc
    simp only at hc
    rw [show (y + 1).toNat = y.toNat + 1 by omega]
    omega
  | @ride p r hr h ih =>
    have hp := h.place R hF
    obtain ⟨k, hk, hr'⟩ := mem_ridesTo.1 hr
    obtain ⟨j, hj, q, _, hq, rfl⟩ := (mem_ridesAt (Nat.le_refl _)).1 hr'
    simp only at ih hp ⊢
    have hmem : (g.edges[j].1.toNat, k, g.edges[j].2.1.toNat, q.1.toNat, pr q.2) ∈ allA g pr g.hor.toNat := mem_allA.2 ⟨k, by omega, .inr ((mem_legA (Nat.le_refl _)).2 ⟨j, hj, q, hj, hq, rfl⟩)⟩
    have hc := B.cl _ hmem
    unfold dst src at hc
    simp only at hc
    simp only [Int.toNat_natCast] at ih
    omega
open Classical in
/-- .. and one costs as much -/
theorem sum_is {g : Gr} (R : Right g) {pr : Int → Int} (hpr : ∀ c, 0 ≤ c → c ≤ 1000 → 0 ≤ pr c ∧ pr c ≤ 1000) {v t : Int} (h0 : 0 ≤ v) {X : Tb} (B : JBest g.lives.length g.hor.toNat (firstT g v t) (allA g pr g.hor.toNat) X)
    (x y : Nat) (hx : x < g.lives.length) (hy : y < g.hor.toNat) : 1099511627776 ≤ tat X x y ∨ Pay g (fun r => pr r.2.2.2.2.2) v t (x : Int) (y : Int) (tat X x y) := by
  have hh := R.hor
  have hok := allA_ok R hpr g.hor.toNat (by omega)
  have hP : PrOk g (fun r => pr r.2.2.2.2.2) := fun r hr => by have := (mem_rides R hr).c0; exact hpr _ this.1 this.2
  obtain ⟨Y, hY⟩ : ∃ Y : Nat → Nat → Int, ∀ a b, (Y a b = 1099511627776 ∧ ∀ p, ¬ Pay g (fun r => pr r.2.2.2.2.2) v t (a : Int) (b : Int) p) ∨ (Pay g (fun r => pr r.2.2.2.2.2) v t (a : Int) (b : Int) (Y a b) ∧ ∀ p, Pay g (fun r => pr r.2.2.2.2.2) v t (a : Int) (b : Int) p → Y a b ≤ p) := by
    have key : ∀ a b : Nat, ∃ z : Int, (z = 1099511627776 ∧ ∀ p, ¬ Pay g (fun r => pr r.2.2.2.2.2) v t (a : Int) (b : Int) p) ∨ (Pay g (fun r => pr r.2.2.2.2.2) v t (a : Int) (b : Int) z ∧ ∀ p, Pay g (fun r => pr r.2.2.2.2.2) v t (a : Int) (b : Int) p → z ≤ p) := fun a b => by
      by_cases h : ∃ p, Pay g (fun r => pr r.2.2.2.2.2) v t (a : Int) (b : Int) p
      · obtain ⟨p, hp⟩ := h
        have hr := hp.range R hP h0
        obtain ⟨n, h1, h2⟩ := least_nat (p := fun n => Pay g (fun r => pr r.2.2.2.2.2) v t (a : Int) (b : Int) (n : Int)) ⟨p.toNat, by rw [show ((p.toNat : Nat) : Int) = p by omega]; exact hp⟩
        refine ⟨n, .inr ⟨h1, fun p' hp' => ?_⟩⟩
        have hr' := hp'.range R hP h0
        have := h2 p'.toNat (by rw [show ((p'.toNat : Nat) : Int) = p' by omega]; exact hp')
        omega
      · exact ⟨_, .inl ⟨rfl, fun p hp => h ⟨p, hp⟩⟩⟩
    exact ⟨fun a b => Classical.choose (key a b), fun a b => Classical.choose_spec (key a b)⟩
  have hYle : ∀ a b, Y a b ≤ 1099511627776 := fun a b => by
    rcases hY a b with h | h
    · omega
    · have := h.1.range R hP h0; omega
  have hYp : ∀ a b p, Pay g (fun r => pr r.2.2.2.2.2) v t ((a : Nat) : Int) ((b : Nat) : Int) p → Y a b ≤ p := fun a b p hp => by
    rcases hY a b with h | h
    · exact absurd hp (h.2 p)
    · exact h.2 p hp
  have hadm : JAdm g.lives.length g.hor.toNat (firstT g v t) (allA g pr g.hor.toNat) Y := by
    refine ⟨fun a b ha hb => ?_, fun a ha => ?_⟩
    · unfold firstT
      split
      · rename_i e
        refine hYp a b 0 ⟨e.1, .base ?_⟩
        unfold F1; rw [if_pos ⟨e.2.1, e.2.2⟩]
      · exact hYle a b
    · have hp := (hok a ha).p0
      have hp1 := (hok a ha).p1
      obtain ⟨k, hk, ha | ha⟩ := mem_allA.1 ha
      · obtain ⟨u, h1, h2, h3, rfl⟩ := mem_waitA.1 ha
        simp only at hp ⊢
        rcases hY u k with h | h
        · have := hYle u (k + 1); omega
        · have := hYp u (k + 1) _ (by have := pay_wait h.1 h3; rwa [show (k : Int) + 1 = ((k + 1 : Nat) : Int) by omega] at this)
          omega
      · obtain ⟨j, hj, q, _, hq, rfl⟩ := (mem_legA (Nat.le_refl _)).1 ha
        simp only at hp hp1 ⊢
        obtain ⟨l1, l2, l3, l4, _, _⟩ := lands_lt R hj hq
        obtain ⟨hA, hB, _⟩ := R.ends _ (List.getElem_mem hj)
        have eA : ((g.edges[j].1.toNat : Nat) : Int) = g.edges[j].1 := by omega
        have eB : ((g.edges[j].2.1.toNat : Nat) : Int) = g.edges[j].2.1 := by omega
        have eq : ((q.1.toNat : Nat) : Int) = q.1 := by omega
        rcases hY g.edges[j].1.toNat k with h | h
        · have := hYle g.edges[j].2.1.toNat q.1.toNat; omega
        · have h' := h.1
          rw [eA] at h'
          have := pay_ride R hj h' (by omega) hq
          simp only at this
          exact hYp _ _ _ (by rw [eB, eq]; exact this)
  have hm := B.mid.most Y hadm x y hx hy
  rcases hY x y with h | h
  · left; omega
  · right
    have := sum_below R h0 B h.1
    simp only [Int.toNat_natCast] at this
    have e : Y x y = tat X x y := by omega
    rw [← e]; exact h.1
/-- Least tells the least prices -/
theorem least_ref {g : Gr} (R : Right g) {pr : Int → Int} (hpr : ∀ c, 0 ≤ c → c ≤ 1000 → 0 ≤ pr c ∧ pr c ≤ 1000) {v t : Int} (h0 : 0 ≤ v) {X : Tb} (B : JBest g.lives.length g.hor.toNat (firstT g v t) (allA g pr g.hor.toNat) X) : LeastIs g (fun r => pr r.2.2.2.2.2) v t (lstL X g.hor.toNat g.lives.length) := by
  have hg : ∀ x, x < g.lives.length → (lstL X g.hor.toNat g.lives.length).getD x 0 = minG (tat X x) g.hor.toNat := fun x hx => by simp [lstL, List.getD_eq_getElem?_getD, hx]
  refine ⟨by simp [lstL], fun x hx => ?_, fun x hx y p hp => ?_⟩
  · rw [hg x hx]
    obtain ⟨h1, h2, h3⟩ := minG_spec (tat X x) g.hor.toNat
    rcases h2 with h2 | ⟨y, k1, k2⟩
    · exact .inl h2
    · rcases sum_is R hpr h0 B x y hx k1 with h | h
      · left; omega
      · right; rw [k2]; exact ⟨_, h⟩
  · rw [hg x hx]
    obtain ⟨h1, h2, h3⟩ := minG_spec (tat X x) g.hor.toNat
    have hpl := hp.2.place R (F1_ok h0 hp.1)
    have k1 := h1 y.toNat (by omega)
    have k2 := sum_below R h0 B hp
    simp only [Int.toNat_natCast] at k2
    omega

theorem fstF_spec (g : Gr) (v q : Nat) : ∀ k : Nat, ((fstF g v q k).1 = 1099511627776 ∧ ∀ t : Nat, t < k → ¬ ((arrF g v t).getD q 0 < 1099511627776 ∧ (arrF g v t).getD q 0 - t < 1099511627776)) ∨ ∃ t : Nat, t < k ∧ (arrF g v t).getD q 0 < 1099511627776 ∧ fstF g v q k = ((arrF g v t).getD q 0 - t, (t : Int)) ∧ ∀ t' : Nat, t' < k → (arrF g v t').getD q 0 < 1099511627776 → (arrF g v t).getD q 0 - t ≤ (arrF g v t').getD q 0 - t' ∧ ((arrF g v t).getD q 0 - (t : Int) = (arrF g v t').getD q 0 - t' → t ≤ t')
  | 0 => .inl ⟨rfl, fun t h => by omega⟩
  | k + 1 => by
    have ih := fstF_spec g v q k
    rw [fstF]
    rcases ih with ⟨h1, h2⟩ | ⟨t, h1, h2, h3, h4⟩
    · split
      · rename_i hc
        refine .inr ⟨k, by omega, hc.1, rfl, fun t' ht' hz' => ?_⟩
        by_cases e : t' = k
        · subst e; exact ⟨Int.le_refl _, fun _ => Nat.le_refl _⟩
        · exact absurd ⟨hz', by omega⟩ (h2 t' (by omega))
      · rename_i hc
        refine .inl ⟨h1, fun t ht => ?_⟩
        by_cases e : t = k
        · subst e; rw [h1] at hc; exact hc
        · exact h2 t (by omega)
    · rw [h3]
      simp only
      split
      · rename_i hc
        refine .inr ⟨k, by omega, hc.1, rfl, fun t' ht' hz' => ?_⟩
        by_cases e : t' = k
        · subst e; exact ⟨Int.le_refl _, fun _ => Nat.le_refl _⟩
        · have := (h4 t' (by omega) hz').1
          exact ⟨by omega, fun _ => by omega⟩
      · rename_i hc
        refine .inr ⟨t, by omega, h2, rfl, fun t' ht' hz' => ?_⟩
        by_cases e : t' = k
        · subst e
          have : ¬ ((arrF g v t').getD q 0 - t' < (arrF g v t).getD q 0 - t) := fun h => hc ⟨hz', h⟩
          exact ⟨by omega, fun _ => by omega⟩
        · exact h4 t' (by omega) hz'
/-- .. Fastest the fastest -/
theorem fast_ref {g : Gr} {la ea : Option Addr} {w : World} (hG : GAt w la ea g) (hg0 : gChk g = 0) {v q : Nat} (hv : v < g.lives.length) (hq : q < g.lives.length) :
    ((fstF g v q g.hor.toNat).1 = 1099511627776 → FastIs g v q 0 0 4) ∧ ((fstF g v q g.hor.toNat).1 ≠ 1099511627776 → FastIs g v q (fstF g v q g.hor.toNat).1 (fstF g v q g.hor.toNat).2 0) := by
  have R := gChk_right hg0
  have hh := R.hor
  have hA : ∀ t : Nat, (t : Int) < g.hor → arrF g v t = (erF g v t).1 := fun t ht => arrF_is hG (placeE_of hg0 ⟨by omega, by omega⟩ ⟨by omega, ht⟩)
  have hin : ∀ s τ, Rch g v s q τ → (arrF g v ((s.toNat : Nat) : Int)).getD q 0 ≤ τ ∧ s.toNat < g.hor.toNat ∧ ((s.toNat : Nat) : Int) = s ∧ τ < 1099511627776 := fun s τ h => by
    have h1 := alive_hor R h.src
    have e : ((s.toNat : Nat) : Int) = s := by omega
    have h2 := (erF_ok R (v := (v : Int)) (t := s) (by omega) h.src).2 _ _ h
    have h3 := (h.place R (by omega)).2.2
    rw [hA s.toNat (by omega), e]
    simp only [Int.toNat_natCast] at h2
    exact ⟨h2, by omega, rfl, by omega⟩
  have hout : ∀ t : Nat, t < g.hor.toNat → (arrF g v t).getD q 0 < 1099511627776 → Rch g v t q ((arrF g v t).getD q 0) := fun t ht h => by
    rw [hA t (by omega)] at h ⊢
    by_cases ha : aliveB (t : Int) g.lives (v : Int) = true
    · rcases (erF_ok R (v := (v : Int)) (t := (t : Int)) (by omega) ha).1.is q hq with e | e
      · omega
      · exact e
    · rw [erF_away ha, rep_getD _ _ _ hq] at h; omega
  rcases fstF_spec g v q g.hor.toNat with ⟨h1, h2⟩ | ⟨t, h1, h2, h3, h4⟩
  · refine ⟨fun _ => .inl ⟨rfl, rfl, rfl, fun s τ h => ?_⟩, fun h => absurd h1 h⟩
    obtain ⟨k1, k2, k3, k4⟩ := hin s τ h
    exact h2 s.toNat k2 ⟨by omega, by omega⟩
  · rw [h3]
    refine ⟨fun h => by simp only at h; have := (hout t h1 h2).le R; have := ((hout t h1 h2).place R (by omega)).2.2; omega, fun _ => .inr ⟨rfl, ?_, fun s τ h => ?_, fun s h => ?_⟩⟩
    · have := hout t h1 h2
      simp only
      rw [show (t : Int) + ((arrF g v t).getD q 0 - t) = (arrF g v t).getD q 0 by omega]
      exact this
    · obtain ⟨k1, k2, k3, k4⟩ := hin s τ h
      have := (h4 s.toNat k2 (by omega)).1
      simp only; omega
    · simp only at h ⊢
      obtain ⟨k1, k2, k3, k4⟩ := hin s _ h
      have := h4 s.toNat k2 (by omega)
      omega

end Go.Proofs.Ytkgbgkcbflicmac

namespace Go.Proofs.Ytkgbgkcbflicmac
open Go.RowKit

theorem take_succI (l : List Int) (k : Nat) (h : k < l.length) : l.take (k + 1) = l.take k ++ [l[k]] := List.take_succ_eq_append_getElem h

set_option maxHeartbeats 2000000 in
theorem EqualI_any (ao bo : Option Addr) (ca cb : Nat) (a b : List Int) (w : World) (hA : ZsAt w ao a) (hB : ZsAt w bo b) (hl : a.length ≤ 9223372036854775807) :
    Calls Try.prog 11 #[.slice ao a.length ca, .slice bo b.length cb] w fun e w' => e = .returned (.bool (decide (a = b))) ∧ Below w.heap.size w w' := by
  by_cases hlen : a.length = b.length
  · have HLN : Hid (a.length = b.length) := hlen
    rw [← hlen]
    have hne : ((a.length : Int) != (a.length : Int)) = false := by simp
    clear hlen
    go_enter Try.func11, Try.ntmps11
    go_wp2
    go_loopw [5, 13] (fun _ i wr => ∃ k : Nat, k ≤ a.length ∧ i = .int .i64 k ∧ a.take k = b.take k ∧ Below w.heap.size w wr) (fun _ i _ => a.length - (intOf i).toNat)
    case atStart => exact ⟨0, Nat.zero_le _, rfl, rfl, Below.refl _ _⟩
    case round =>
      obtain ⟨k, hk, rfl, hh, hb⟩ := hrel
      have HH : Hid (a.take k = b.take k) := hh
      clear hh
      by_cases hlt : k < a.length
      · have hlt' : k < b.length := by have := HLN.out; omega
        rcases hA.below hb with h0 | ⟨b1, o1, rfl, hb1, hc1⟩
        · subst h0; simp at hlt
        rcases hB.below hb with h0 | ⟨b2, o2, rfl, hb2, hc2⟩
        · subst h0; simp at hlt'
        have c0 := hc1 k hlt
        have d0 := hc2 k hlt'
        rw [List.getD_eq_getElem?_getD, List.getElem?_eq_getElem hlt, Option.getD_some] at c0
        rw [List.getD_eq_getElem?_getD, List.getElem?_eq_getElem hlt', Option.getD_some] at d0
        clear hc1 hc2 hA hB
        by_cases g : a[k] = b[k]
        · have HC : Hid (a.take (k + 1) = b.take (k + 1)) := by show _ = _; rw [take_succI a k hlt, take_succI b k hlt', HH.out, g]
          have e1 : (a[k] != b[k]) = false := by simpa using g
          clear g
          go_wp2
          go_quiet (fail)
          go_wp2
          go_roundw
          case rel => exact ⟨k + 1, by omega, by go_num, HC.out, below_drewN hb _⟩
          case measure => simp [intOf]; omega
        · have HC : Hid (decide (a = b) = false) := by
            show _ = _
            rw [decide_eq_false_iff_not]
            intro h; subst h; exact g rfl
          have e1 : (a[k] != b[k]) = true := by simpa using g
          clear g
          go_wp2
          go_quiet (fail)
          go_wp2
          go_ret
          exact ⟨retp_bool HC.out.symm, below_drewN hb _⟩
      · have hkl : k = a.length := by omega
        have HC : Hid (decide (a = b) = true) := by
          show _ = _
          have := HH.out
          rw [hkl, List.take_length, HLN.out, List.take_length] at this
          rw [this]; simp
        go_wp2
        go_ret
        exact ⟨retp_bool HC.out.symm, hb⟩
  · have hne : ((a.length : Int) != (b.length : Int)) = true := by simp; omega
    have HC : Hid (decide (a = b) = false) := by
      show _ = _
      rw [decide_eq_false_iff_not]
      intro h; subst h; exact hlen rfl
    clear hlen
    go_enter Try.func11, Try.ntmps11
    go_wp2
    go_ret
    exact ⟨retp_bool HC.out.symm, Below.refl _ _⟩

end Go.Proofs.Ytkgbgkcbflicmac

namespace Go.Proofs.Ytkgbgkcbflicmac
open Go.RowKit

/-- what Fastest of the reference answers, as three numbers -/
theorem fstA_is {g : Gr} {la ea : Option Addr} {w : World} (hG : GAt w la ea g) (hg0 : gChk g = 0) {v q : Nat} (hv : v < g.lives.length) (hq : q < g.lives.length) : ∃ d a e, fstA g v q = .tuple #[.int .i64 d, .int .i64 a, .int .i64 e] ∧ FastIs g v q d a e := by
  obtain ⟨h1, h2⟩ := fast_ref hG hg0 hv hq
  unfold fstA
  by_cases e : (fstF g v q g.hor.toNat).1 = 1099511627776
  · rw [if_pos e]; exact ⟨_, _, _, rfl, h1 e⟩
  · rw [if_neg e]; exact ⟨_, _, _, rfl, h2 e⟩
set_option maxRecDepth 100000 in
set_option maxHeartbeats 1000000 in
theorem cheapSays_walk (g : Gr) (la ea : Option Addr) (lc ec : Nat) (v t q : Int) (w : World) (hG : GAt w la ea g) :
    Calls Try.prog 3 #[.agg #[.int .i64 g.hor, .slice la g.lives.length lc, .slice ea g.edges.length ec], .int .i64 v, .int .i64 t, .int .i64 q] w fun r w' => r = .returned (.bool true) ∧ Below w.heap.size w w' := by
  have B0 := gbx_start w g la ea lc ec 25
  have h1 := Place_any g la ea lc ec v t _ (hG.below B0.bel)
  have HC := hideg (fun W (hb : Below w.heap.size w W) => cCosts_any g la ea lc ec v t W (hG.below hb))
  have HH := hideg (fun W (hb : Below w.heap.size w W) => cHops_any g la ea lc ec v t W (hG.below hb))
  have HK := hideg (fun W (hb : Below w.heap.size w W) => RGraph_any g la ea lc ec W (hG.below hb))
  have HF := hideg (fun W (hb : Below w.heap.size w W) => cFastest_any g la ea lc ec v q W (hG.below hb))
  have hnl : g.lives.length ≤ 9223372036854775807 := hG.nl
  have hwl : IntKind.i64.wrap ((g.lives.length : Int) - 1) = (g.lives.length : Int) - 1 := wrap_nj _ (by omega) (by omega)
  have HG := hideg hG
  by_cases e1 : placeE g v t = 0
  · obtain ⟨hg0, ⟨hv0, hv1⟩, ht0, ht1⟩ := placeE_zero e1
    have hR := gChk_right hg0
    have hlen : g.lives.length ≤ 12 := hR.lvs
    have hhor := hR.hor
    have HS := hideg (fun W (hb : Below w.heap.size w W) => Sums_any g la ea lc ec v t W (hG.below hb) e1)
    have HU1 : Hid (∀ L X, LeastE g prCost v t L → JBest g.lives.length g.hor.toNat (firstT g v t) (allA g id g.hor.toNat) X → L = lstL X g.hor.toNat g.lives.length) := fun L X h B => least_unique hR (prCost_ok hR) hv0 (leastE_ok h e1) (least_ref hR (pr := id) (fun c h1 h2 => ⟨h1, h2⟩) hv0 B)
    have HU2 : Hid (∀ L X, LeastE g prOne v t L → JBest g.lives.length g.hor.toNat (firstT g v t) (allA g (fun _ => 1) g.hor.toNat) X → L = lstL X g.hor.toNat g.lives.length) := fun L X h B => least_unique hR (prOne_ok g) hv0 (leastE_ok h e1) (least_ref hR (pr := fun _ => 1) (fun c h1 h2 => ⟨by omega, by omega⟩) hv0 B)
    have HLl : Hid (∀ X, (lstL X g.hor.toNat g.lives.length).length = g.lives.length) := fun X => by simp [lstL]
    rw [e1] at h1
    rw [e1] at HC HH
    clear hG hR e1
    go_enter Try.func3, Try.ntmps3
    go_wp2_with fail
    refine h1.mono ?_
    rintro r w1 ⟨rfl, hb1⟩
    have B1 := B0.below hb1
    have g0 := B1.c0
    have g1 := B1.c1
    have g2 := B1.c2
    clear h1 hb1 B0
    go_wp2_with fail
    refine (HS.out _ B1.bel).mono ?_
    rintro r w2 ⟨goC, cC, goH, cH, bc, bh, X, Y, rfl, hX, hY, hbc, hbh, hSum, hb2⟩
    have B2 := B1.below hb2
    have hL1 := Least_any w1.heap.size goC cC bc g.hor.toNat g.lives.length X w2 hX hbc (by omega) hlen
    have HL2 := hideg (fun W (hb : Below w2.heap.size w2 W) => Least_any w1.heap.size goH cH bh g.hor.toNat g.lives.length Y W (hY.below hb) hbh (by omega) hlen)
    have HX := hideg hSum.costs
    have HY := hideg hSum.hops
    clear hb2 B1 g0 g1 g2 hX hY hSum hbc hbh HS
    go_wp2_with fail
    refine hL1.mono ?_
    rintro r w3 ⟨u1, rfl, ho1, hb3⟩
    have B3 := B2.below hb3
    have hL2 := HL2.out w3 hb3
    clear hL1 hb3 B2 HL2
    go_wp2_with fail
    refine hL2.mono ?_
    rintro r w4 ⟨u2, rfl, ho2, hb4⟩
    have B4 := B3.below hb4
    have ho1 := ownsRow_below ho1 hb4
    have h5 := HC.out w4 B4.bel
    clear hL2 hb4 B3 HC
    have g0 := B4.c0
    have g1 := B4.c1
    have g2 := B4.c2
    go_wp2_with fail
    refine h5.mono ?_
    rintro r w5 ⟨u3, L3, rfl, hE3, ho3, hb5⟩
    have B5 := B4.below hb5
    have ho1 := ownsRow_below ho1 hb5
    have ho2 := ownsRow_below ho2 hb5
    have h6 := HH.out w5 B5.bel
    have e3 := HU1.out L3 X hE3 HX.out
    clear h5 hb5 B4 HH g0 g1 g2 hE3 HU1
    have g0 := B5.c0
    have g1 := B5.c1
    have g2 := B5.c2
    go_wp2_with fail
    refine h6.mono ?_
    rintro r w6 ⟨u4, L4, rfl, hE4, ho4, hb6⟩
    have B6 := B5.below hb6
    have ho1 := ownsRow_below ho1 hb6
    have ho2 := ownsRow_below ho2 hb6
    have ho3 := ownsRow_below ho3 hb6
    have e4 := HU2.out L4 Y hE4 HY.out
    have hl1 := HLl.out X
    have hl2 := HLl.out Y
    generalize lstL X g.hor.toNat g.lives.length = A at *
    generalize lstL Y g.hor.toNat g.lives.length = C at *
    subst e3
    subst e4
    rw [← hl1] at ho1
    rw [← hl2] at ho2
    obtain ⟨a1, c1, rfl, z1⟩ := zsAt_of_owns ho1
    obtain ⟨a2, c2, rfl, z2⟩ := zsAt_of_owns ho2
    obtain ⟨a3, c3, rfl, z3⟩ := zsAt_of_owns ho3
    obtain ⟨a4, c4, rfl, z4⟩ := zsAt_of_owns ho4
    have hE1 := EqualI_any a3 a1 c3 c1 L3 L3 w6 z3 z1 (by omega)
    have HE2 := hideg (fun W (hb : Below w6.heap.size w6 W) => EqualI_any a4 a2 c4 c2 L4 L4 W (z4.below hb) (z2.below hb) (by omega))
    rw [show decide (L3 = L3) = true from decide_eq_true rfl] at hE1
    rw [show decide (L4 = L4) = true from decide_eq_true rfl] at HE2
    clear h6 hb6 B5 g0 g1 g2 hE4 HU2 ho1 ho2 ho3 ho4 z1 z2 z3 z4 HLl HX HY hl1 hl2
    go_wp2_with fail
    refine hE1.mono ?_
    rintro r w7 ⟨rfl, hb7⟩
    have B7 := B6.below hb7
    have hE2 := HE2.out w7 hb7
    clear hE1 hb7 B6 HE2
    go_wp2_with fail
    refine hE2.mono ?_
    rintro r w8 ⟨rfl, hb8⟩
    have B8 := B7.below hb8
    have h9 := HK.out w8 B8.bel
    clear hE2 hb8 B7 HK
    have g0 := B8.c0
    have g1 := B8.c1
    have g2 := B8.c2
    have HI1 := hideg (fun W => In_any v 0 ((g.lives.length : Int) - 1) W)
    have HI2 := hideg (fun W => In_any q 0 ((g.lives.length : Int) - 1) W)
    have HXo := hideg (fun hn d a e (h : FastE g v q d a e) => fastE_out h hg0 hn)
    have HXi := hideg (fun hn d a e (h : FastE g v q d a e) => fastE_in h hg0 hn)
    have HRf := hideg (fun (V Y : Nat) W (hb : Below w.heap.size w W) (hV : V < g.lives.length) (hY : Y < g.lives.length) => Fastest_any g la ea lc ec V Y W (HG.out.below hb) hg0 hV hY)
    have HRi := hideg (fun (V Y : Nat) (hV : V < g.lives.length) (hY : Y < g.lives.length) => fstA_is HG.out hg0 hV hY)
    rw [hg0] at h9
    clear hg0
    by_cases hvi : 0 ≤ v ∧ v < (g.lives.length : Int)
    · rw [show inR v 0 ((g.lives.length : Int) - 1) = true from (inR_iff _ _ _).2 (by omega)] at HI1
      by_cases hqi : 0 ≤ q ∧ q < (g.lives.length : Int)
      · rw [show inR q 0 ((g.lives.length : Int) - 1) = true from (inR_iff _ _ _).2 (by omega)] at HI2
        have HX := hideg (HXi.out ⟨hvi, hqi⟩)
        obtain ⟨V, rfl⟩ : ∃ V : Nat, v = (V : Int) := ⟨v.toNat, by omega⟩
        obtain ⟨Q, rfl⟩ : ∃ Q : Nat, q = (Q : Int) := ⟨q.toNat, by omega⟩
        obtain ⟨rd, ra, re, hrA, hrI⟩ := HRi.out V Q (by omega) (by omega)
        have HRf2 := hideg (fun W hb => HRf.out V Q W hb (by omega) (by omega))
        rw [hrA] at HRf2
        have HrI := hideg hrI
        clear HXo HXi HRf HRi hvi hqi hrA hrI
        have hi1 := fun W => HI1.out W
        have hi2 := fun W => HI2.out W
        clear HI1 HI2
        go_wp2_with fail
        refine h9.mono ?_
        rintro r w9 ⟨rfl, hb9⟩
        have B9 := B8.below hb9
        clear h9 hb9 B8 g0 g1 g2
        have g0 := B9.c0
        have g1 := B9.c1
        have g2 := B9.c2
        go_wp2_with fail
        refine (hi1 _).mono ?_
        rintro e w' ⟨rfl, rfl⟩
        clear hi1
        go_wp2_with fail
        refine (hi2 _).mono ?_
        rintro e w' ⟨rfl, rfl⟩
        clear hi2
        go_wp2_with fail
        refine (HRf2.out _ B9.bel).mono ?_
        rintro r w11 ⟨rfl, hb11⟩
        have B11 := B9.below hb11
        have h10 := HF.out w11 B11.bel
        clear hb11 B9 g0 g1 g2 HF HRf2
        have g0 := B11.c0
        have g1 := B11.c1
        have g2 := B11.c2
        go_wp2_with fail
        refine h10.mono ?_
        rintro r w10 ⟨d, a, e, rfl, hFE, hb10⟩
        obtain ⟨rfl, rfl, rfl⟩ := fast_unique (HX.out d a e hFE) HrI.out
        have hbF := (B11.below hb10).bel
        clear h10 hb10 B11 hFE g0 g1 g2 HX HrI
        go_wp2
        go_ret
        exact ⟨rfl, hbF⟩
      · rw [show inR q 0 ((g.lives.length : Int) - 1) = false from by rw [← Bool.not_eq_true, inR_iff]; omega] at HI2
        have HX := hideg (HXo.out (fun h => hqi h.2))
        clear HXo HXi HRf HRi hvi hqi
        have hi1 := fun W => HI1.out W
        have hi2 := fun W => HI2.out W
        clear HI1 HI2
        go_wp2_with fail
        refine h9.mono ?_
        rintro r w9 ⟨rfl, hb9⟩
        have B9 := B8.below hb9
        have h10 := HF.out w9 B9.bel
        clear h9 hb9 B8 g0 g1 g2 HF
        have g0 := B9.c0
        have g1 := B9.c1
        have g2 := B9.c2
        go_wp2_with fail
        refine (hi1 _).mono ?_
        rintro e w' ⟨rfl, rfl⟩
        clear hi1
        go_wp2_with fail
        refine (hi2 _).mono ?_
        rintro e w' ⟨rfl, rfl⟩
        clear hi2
        go_wp2_with fail
        refine h10.mono ?_
        rintro r w10 ⟨d, a, e, rfl, hFE, hb10⟩
        obtain ⟨rfl, rfl, rfl⟩ := HX.out d a e hFE
        have hbF := (B9.below hb10).bel
        clear h10 hb10 B9 hFE g0 g1 g2
        go_wp2
        go_ret
        exact ⟨rfl, hbF⟩
    · rw [show inR v 0 ((g.lives.length : Int) - 1) = false from by rw [← Bool.not_eq_true, inR_iff]; omega] at HI1
      have HX := hideg (HXo.out (fun h => hvi h.1))
      have hi1 := fun W => HI1.out W
      clear HXo HXi HRf HRi hvi HI1 HI2
      go_wp2_with fail
      refine h9.mono ?_
      rintro r w9 ⟨rfl, hb9⟩
      have B9 := B8.below hb9
      have h10 := HF.out w9 B9.bel
      clear h9 hb9 B8 g0 g1 g2 HF
      have g0 := B9.c0
      have g1 := B9.c1
      have g2 := B9.c2
      go_wp2_with fail
      refine (hi1 _).mono ?_
      rintro e w' ⟨rfl, rfl⟩
      clear hi1
      go_wp2_with fail
      refine h10.mono ?_
      rintro r w10 ⟨d, a, e, rfl, hFE, hb10⟩
      obtain ⟨rfl, rfl, rfl⟩ := HX.out d a e hFE
      have hbF := (B9.below hb10).bel
      clear h10 hb10 B9 hFE g0 g1 g2
      go_wp2
      go_ret
      exact ⟨rfl, hbF⟩
  · have d1 : (placeE g v t == 0) = false := by simpa using e1
    have d2 : (placeE g v t != placeE g v t) = false := by simp
    have HU1 : Hid (∀ L, LeastE g prCost v t L → L = []) := fun L h => leastE_bad h e1
    have HU2 : Hid (∀ L, LeastE g prOne v t L → L = []) := fun L h => leastE_bad h e1
    clear hG e1
    go_enter Try.func3, Try.ntmps3
    go_wp2_with fail
    refine h1.mono ?_
    rintro r w1 ⟨rfl, hb1⟩
    have B1 := B0.below hb1
    have h5 := HC.out w1 B1.bel
    have g0 := B1.c0
    have g1 := B1.c1
    have g2 := B1.c2
    generalize placeE g v t = pe at *
    clear h1 hb1 B0 HC
    go_wp2_with fail
    refine h5.mono ?_
    rintro r w5 ⟨u3, L3, rfl, hE3, ho3, hb5⟩
    have e3 := HU1.out L3 hE3
    subst e3
    have B5 := B1.below hb5
    have h6 := HH.out w5 B5.bel
    clear h5 hb5 B1 HH g0 g1 g2 hE3 HU1
    have g0 := B5.c0
    have g1 := B5.c1
    have g2 := B5.c2
    go_wp2_with fail
    refine h6.mono ?_
    rintro r w6 ⟨u4, L4, rfl, hE4, ho4, hb6⟩
    have e4 := HU2.out L4 hE4
    subst e4
    have B6 := B5.below hb6
    have ho3 := ownsRow_below ho3 hb6
    obtain ⟨a3, c3, rfl, z3⟩ := zsAt_of_owns ho3
    obtain ⟨a4, c4, rfl, z4⟩ := zsAt_of_owns ho4
    have hE1 := EqualI_any a3 none c3 0 [] [] w6 z3 (.inl rfl) (by simp)
    have HE2 := hideg (fun W (hb : Below w6.heap.size w6 W) => EqualI_any a4 none c4 0 [] [] W (z4.below hb) (.inl rfl) (by simp))
    rw [show decide (([] : List Int) = []) = true from decide_eq_true rfl] at hE1 HE2
    clear h6 hb6 B5 g0 g1 g2 hE4 HU2 ho3 ho4 z3 z4
    go_wp2_with fail
    refine hE1.mono ?_
    rintro r w7 ⟨rfl, hb7⟩
    have B7 := B6.below hb7
    have hE2 := HE2.out w7 hb7
    clear hE1 hb7 B6 HE2
    go_wp2_with fail
    refine hE2.mono ?_
    rintro r w8 ⟨rfl, hb8⟩
    have B8 := B7.below hb8
    have h9 := HK.out w8 B8.bel
    clear hE2 hb8 B7 HK
    have g0 := B8.c0
    have g1 := B8.c1
    have g2 := B8.c2
    have HI1 := hideg (fun W => In_any v 0 ((g.lives.length : Int) - 1) W)
    have HI2 := hideg (fun W => In_any q 0 ((g.lives.length : Int) - 1) W)
    by_cases hg0 : gChk g = 0
    case neg =>
      have HX := hideg (fun d a e (h : FastE g v q d a e) => fastE_chk h hg0)
      have dk : (gChk g == 0) = false := by simpa using hg0
      have dk2 : (gChk g == gChk g) = true := by simp
      generalize gChk g = kk at *
      clear hg0 HI1 HI2
      go_wp2_with fail
      refine h9.mono ?_
      rintro r w9 ⟨rfl, hb9⟩
      have B9 := B8.below hb9
      have h10 := HF.out w9 B9.bel
      clear h9 hb9 B8 HF g0 g1 g2
      have g0 := B9.c0
      have g1 := B9.c1
      have g2 := B9.c2
      go_wp2_with fail
      refine h10.mono ?_
      rintro r w10 ⟨d, a, e, rfl, hFE, hb10⟩
      obtain ⟨rfl, rfl, rfl⟩ := HX.out d a e hFE
      have hbF := (B9.below hb10).bel
      clear h10 hb10 B9 hFE g0 g1 g2
      go_wp2
      go_ret
      exact ⟨rfl, hbF⟩
    have HXo := hideg (fun hn d a e (h : FastE g v q d a e) => fastE_out h hg0 hn)
    have HXi := hideg (fun hn d a e (h : FastE g v q d a e) => fastE_in h hg0 hn)
    have HRf := hideg (fun (V Y : Nat) W (hb : Below w.heap.size w W) (hV : V < g.lives.length) (hY : Y < g.lives.length) => Fastest_any g la ea lc ec V Y W (HG.out.below hb) hg0 hV hY)
    have HRi := hideg (fun (V Y : Nat) (hV : V < g.lives.length) (hY : Y < g.lives.length) => fstA_is HG.out hg0 hV hY)
    rw [hg0] at h9
    clear hg0
    by_cases hvi : 0 ≤ v ∧ v < (g.lives.length : Int)
    · rw [show inR v 0 ((g.lives.length : Int) - 1) = true from (inR_iff _ _ _).2 (by omega)] at HI1
      by_cases hqi : 0 ≤ q ∧ q < (g.lives.length : Int)
      · rw [show inR q 0 ((g.lives.length : Int) - 1) = true from (inR_iff _ _ _).2 (by omega)] at HI2
        have HX := hideg (HXi.out ⟨hvi, hqi⟩)
        obtain ⟨V, rfl⟩ : ∃ V : Nat, v = (V : Int) := ⟨v.toNat, by omega⟩
        obtain ⟨Q, rfl⟩ : ∃ Q : Nat, q = (Q : Int) := ⟨q.toNat, by omega⟩
        obtain ⟨rd, ra, re, hrA, hrI⟩ := HRi.out V Q (by omega) (by omega)
        have HRf2 := hideg (fun W hb => HRf.out V Q W hb (by omega) (by omega))
        rw [hrA] at HRf2
        have HrI := hideg hrI
        clear HXo HXi HRf HRi hvi hqi hrA hrI
        have hi1 := fun W => HI1.out W
        have hi2 := fun W => HI2.out W
        clear HI1 HI2
        go_wp2_with fail
        refine h9.mono ?_
        rintro r w9 ⟨rfl, hb9⟩
        have B9 := B8.below hb9
        clear h9 hb9 B8 g0 g1 g2
        have g0 := B9.c0
        have g1 := B9.c1
        have g2 := B9.c2
        go_wp2_with fail
        refine (hi1 _).mono ?_
        rintro e w' ⟨rfl, rfl⟩
        clear hi1
        go_wp2_with fail
        refine (hi2 _).mono ?_
        rintro e w' ⟨rfl, rfl⟩
        clear hi2
        go_wp2_with fail
        refine (HRf2.out _ B9.bel).mono ?_
        rintro r w11 ⟨rfl, hb11⟩
        have B11 := B9.below hb11
        have h10 := HF.out w11 B11.bel
        clear hb11 B9 g0 g1 g2 HF HRf2
        have g0 := B11.c0
        have g1 := B11.c1
        have g2 := B11.c2
        go_wp2_with fail
        refine h10.mono ?_
        rintro r w10 ⟨d, a, e, rfl, hFE, hb10⟩
        obtain ⟨rfl, rfl, rfl⟩ := fast_unique (HX.out d a e hFE) HrI.out
        have hbF := (B11.below hb10).bel
        clear h10 hb10 B11 hFE g0 g1 g2 HX HrI
        go_wp2
        go_ret
        exact ⟨rfl, hbF⟩
      · rw [show inR q 0 ((g.lives.length : Int) - 1) = false from by rw [← Bool.not_eq_true, inR_iff]; omega] at HI2
        have HX := hideg (HXo.out (fun h => hqi h.2))
        clear HXo HXi HRf HRi hvi hqi
        have hi1 := fun W => HI1.out W
        have hi2 := fun W => HI2.out W
        clear HI1 HI2
        go_wp2_with fail
        refine h9.mono ?_
        rintro r w9 ⟨rfl, hb9⟩
        have B9 := B8.below hb9
        have h10 := HF.out w9 B9.bel
        clear h9 hb9 B8 g0 g1 g2 HF
        have g0 := B9.c0
        have g1 := B9.c1
        have g2 := B9.c2
        go_wp2_with fail
        refine (hi1 _).mono ?_
        rintro e w' ⟨rfl, rfl⟩
        clear hi1
        go_wp2_with fail
        refine (hi2 _).mono ?_
        rintro e w' ⟨rfl, rfl⟩
        clear hi2
        go_wp2_with fail
        refine h10.mono ?_
        rintro r w10 ⟨d, a, e, rfl, hFE, hb10⟩
        obtain ⟨rfl, rfl, rfl⟩ := HX.out d a e hFE
        have hbF := (B9.below hb10).bel
        clear h10 hb10 B9 hFE g0 g1 g2
        go_wp2
        go_ret
        exact ⟨rfl, hbF⟩
    · rw [show inR v 0 ((g.lives.length : Int) - 1) = false from by rw [← Bool.not_eq_true, inR_iff]; omega] at HI1
      have HX := hideg (HXo.out (fun h => hvi h.1))
      have hi1 := fun W => HI1.out W
      clear HXo HXi HRf HRi hvi HI1 HI2
      go_wp2_with fail
      refine h9.mono ?_
      rintro r w9 ⟨rfl, hb9⟩
      have B9 := B8.below hb9
      have h10 := HF.out w9 B9.bel
      clear h9 hb9 B8 g0 g1 g2 HF
      have g0 := B9.c0
      have g1 := B9.c1
      have g2 := B9.c2
      go_wp2_with fail
      refine (hi1 _).mono ?_
      rintro e w' ⟨rfl, rfl⟩
      clear hi1
      go_wp2_with fail
      refine h10.mono ?_
      rintro r w10 ⟨d, a, e, rfl, hFE, hb10⟩
      obtain ⟨rfl, rfl, rfl⟩ := HX.out d a e hFE
      have hbF := (B9.below hb10).bel
      clear h10 hb10 B9 hFE g0 g1 g2
      go_wp2
      go_ret
      exact ⟨rfl, hbF⟩

end Go.Proofs.Ytkgbgkcbflicmac

namespace Go.Proofs.Ytkgbgkcbflicmac
open Go.ChangeShapes Go.WideShapes Go.ChangeAt Go.RowKit Go.Deep

theorem Try.own : ownKnob Try.prog.godebug = none := by kernel_rfl
theorem Try.laidOut : laidOutB Try.prog = true := by kernel_rfl
theorem Try.cellsIvl : Try.prog.cellsOf 59 = 2 := by kernel_rfl
theorem Try.cellsInt : Try.prog.cellsOf 3 = 1 := by kernel_rfl

theorem open_ivs {H : Type} {enc : TypeId × Value → H} {W : World} {a : Option Addr} {len cap : Nat} {d : DataW H} {ps : List MemPlace}
    (h : DataW.Trod enc Try.prog W 0 (fun _ => true) true 22 (.slice a len cap) d ps) : ∃ l : List (Int × Int), l.length = len ∧ IvAt W a l ∧ len ≤ cap ∧ cap ≤ 9223372036854775807 := by
  obtain ⟨fuel, hf⟩ := h
  rcases open_slice_pairs Try.underlying22 Try.underlying59 Try.cellsIvl rfl rfl Try.cellsInt Try.cellsInt hf with ⟨hcs, _⟩ | ⟨x, l, c, m, n, V0, V1, D0, D1, P0, P1, hcs, _, hl, hm, hmm, _, hcell⟩
  · simp [Value.cells] at hcs
    obtain ⟨rfl, rfl, rfl⟩ := hcs
    exact ⟨[], rfl, .inl rfl, Nat.le_refl _, by omega⟩
  · simp [Value.cells] at hcs
    obtain ⟨rfl, rfl, rfl⟩ := hcs
    simp only [if_true] at hmm
    subst hmm
    have each : ∀ i, i < len → ∃ q : Int × Int, W.cell? (x.add (i * 2)) = some (.int .i64 q.1) ∧ W.cell? (x.add (i * 2 + 1)) = some (.int .i64 q.2) := by
      intro i hi
      obtain ⟨h0, h1, t0, t1⟩ := hcell i (by omega)
      obtain ⟨z0, e0, _, _⟩ := DataW.trod_int Try.underlying3 t0
      obtain ⟨z1, e1, _, _⟩ := DataW.trod_int Try.underlying3 t1
      simp only [List.cons.injEq, and_true] at e0 e1
      exact ⟨(z0, z1), by rw [h0, e0], by rw [h1, e1]⟩
    obtain ⟨q, hq⟩ := choose_lt each
    refine ⟨(List.range len).map q, by simp, ?_, hl, by unfold maxLen at hm; omega⟩
    by_cases h0 : len = 0
    · subst h0; exact .inl (by simp)
    · obtain ⟨b, off, spot⟩ := x
      have hc0 := (hq 0 (by omega)).1
      have hspot : spot = none := by simpa [Addr.add] using World.cell?_spot hc0
      subst hspot
      have hlt := World.block_lt_of_cell? W _ hc0
      refine .inr ⟨b, off, rfl, by simpa [Addr.add] using hlt, fun j hj => ?_⟩
      simp only [List.length_map, List.length_range] at hj
      have hg : ((List.range len).map q).getD j (0, 0) = q j := by simp [List.getD_eq_getElem?_getD, hj]
      rw [hg]
      have := hq j hj
      rw [add_plain, add_plain] at this
      simpa [Nat.add_assoc] using this

end Go.Proofs.Ytkgbgkcbflicmac

namespace Go.Proofs.Ytkgbgkcbflicmac
open Go.ChangeShapes Go.WideShapes Go.ChangeAt Go.RowKit Go.Deep

theorem Try.cellsLeg : Try.prog.cellsOf 61 = 4 := by kernel_rfl
theorem Try.cellsEdge : Try.prog.cellsOf 51 = 3 := by kernel_rfl
theorem Try.cellsGraph : Try.prog.cellsOf 25 = 3 := by kernel_rfl
theorem Try.cellsLegs : Try.prog.cellsOf 49 = 1 := by kernel_rfl
theorem Try.cellsIvls : Try.prog.cellsOf 22 = 1 := by kernel_rfl
theorem Try.cellsEdges : Try.prog.cellsOf 23 = 1 := by kernel_rfl

theorem open_ivs_c {H : Type} {enc : TypeId × Value → H} {W : World} {fuel : Nat} {cs : List Value} {d : DataW H} {ps : List MemPlace}
    (hf : DataW.trod enc Try.prog W 0 (fun _ => true) true fuel 22 cs = some (d, ps)) : ∃ a cap, ∃ l : List (Int × Int), cs = [.slice a l.length cap] ∧ IvAt W a l ∧ l.length ≤ cap ∧ cap ≤ 9223372036854775807 := by
  have h : ∃ a n c, cs = [.slice a n c] := by
    rcases open_slice Try.underlying22 hf with ⟨hcs, _⟩ | ⟨x, l, c, m, n, D, Pl, hcs, _⟩
    · exact ⟨_, _, _, hcs⟩
    · exact ⟨_, _, _, hcs⟩
  obtain ⟨a, n, c, rfl⟩ := h
  obtain ⟨l, rfl, h1, h2, h3⟩ := open_ivs (a := a) (len := n) (cap := c) ⟨fuel, hf⟩
  exact ⟨a, c, l, rfl, h1, h2, h3⟩

set_option maxRecDepth 100000 in
theorem open_legs_c {H : Type} {enc : TypeId × Value → H} {W : World} {fuel : Nat} {cs : List Value} {d : DataW H} {ps : List MemPlace}
    (hf : DataW.trod enc Try.prog W 0 (fun _ => true) true fuel 49 cs = some (d, ps)) : ∃ a cap, ∃ l : List Lg, cs = [.slice a l.length cap] ∧ LgAt W a l ∧ l.length ≤ cap ∧ cap ≤ 9223372036854775807 := by
  rcases open_slice Try.underlying49 hf with ⟨hcs, _⟩ | ⟨x, len, cap, m, n, D, Pl, hcs, _, hl, hm, hmm, _, hx⟩
  · exact ⟨none, 0, [], hcs, .inl rfl, Nat.le_refl _, by omega⟩
  · simp only [if_true] at hmm
    subst hmm
    have each : ∀ i, i < len → ∃ q : Lg, W.cell? (x.add (i * 4)) = some (.int .i64 q.1) ∧ W.cell? (x.add (i * 4 + 1)) = some (.int .i64 q.2.1) ∧ W.cell? (x.add (i * 4 + 2)) = some (.int .i64 q.2.2.1) ∧ W.cell? (x.add (i * 4 + 3)) = some (.int .i64 q.2.2.2) := by
      intro i hi
      obtain ⟨cs', h1, h2⟩ := hx i (by omega)
      rw [Try.cellsLeg] at h1
      obtain ⟨_, hlen, hcell⟩ := World.cells?_some h1
      obtain ⟨xs, k, hk, hxy, _, hxl, hff⟩ := DataW.trod_struct Try.underlying61 h2
      match xs, hxl, cs', hlen with
      | [y0, y1, y2, y3], _, [v0, v1, v2, v3], _ =>
        have g0 := hff 0 _ rfl
        have g1 := hff 1 _ rfl
        have g2 := hff 2 _ rfl
        have g3 := hff 3 _ rfl
        simp [Try.cellsInt] at g0 g1 g2 g3
        have e0 := hcell 0 (by omega)
        have e1 := hcell 1 (by omega)
        have e2 := hcell 2 (by omega)
        have e3 := hcell 3 (by omega)
        rw [add_add] at e0 e1 e2 e3
        obtain ⟨z0, f0, _, _⟩ := DataW.trod_int Try.underlying3 g0
        obtain ⟨z1, f1, _, _⟩ := DataW.trod_int Try.underlying3 g1
        obtain ⟨z2, f2, _, _⟩ := DataW.trod_int Try.underlying3 g2
        obtain ⟨z3, f3, _, _⟩ := DataW.trod_int Try.underlying3 g3
        simp only [List.cons.injEq, and_true] at f0 f1 f2 f3
        subst f0
        subst f1
        subst f2
        subst f3
        exact ⟨(z0, z1, z2, z3), by simpa using e0, by simpa using e1, by simpa using e2, by simpa using e3⟩
    obtain ⟨q, hq⟩ := choose_lt each
    refine ⟨some x, m, (List.range len).map q, by rw [hcs]; simp, ?_, by simpa using hl, by unfold maxLen at hm; omega⟩
    by_cases h0 : len = 0
    · subst h0; exact .inl (by simp)
    · obtain ⟨b, off, spot⟩ := x
      have hc0 := (hq 0 (by omega)).1
      have hspot : spot = none := by simpa [Addr.add] using World.cell?_spot hc0
      subst hspot
      have hlt := World.block_lt_of_cell? W _ hc0
      refine .inr ⟨b, off, rfl, by simpa [Addr.add] using hlt, fun j hj => ?_⟩
      simp only [List.length_map, List.length_range] at hj
      have hg : ((List.range len).map q).getD j (0, 0, 0, 0) = q j := by simp [List.getD_eq_getElem?_getD, hj]
      rw [hg]
      have := hq j hj
      rw [add_plain, add_plain, add_plain, add_plain] at this
      simpa [Nat.add_assoc] using this

set_option maxRecDepth 100000 in
theorem open_eds_c {H : Type} {enc : TypeId × Value → H} {W : World} {fuel : Nat} {cs : List Value} {d : DataW H} {ps : List MemPlace}
    (hf : DataW.trod enc Try.prog W 0 (fun _ => true) true fuel 23 cs = some (d, ps)) : ∃ a cap, ∃ l : List Ed, cs = [.slice a l.length cap] ∧ EdAt W a l ∧ l.length ≤ cap ∧ cap ≤ 9223372036854775807 := by
  rcases open_slice Try.underlying23 hf with ⟨hcs, _⟩ | ⟨x, len, cap, m, n, D, Pl, hcs, _, hl, hm, hmm, _, hx⟩
  · exact ⟨none, 0, [], hcs, .inl rfl, Nat.le_refl _, by omega⟩
  · simp only [if_true] at hmm
    subst hmm
    have each : ∀ i, i < len → ∃ q : Ed, W.cell? (x.add (i * 3)) = some (.int .i64 q.1) ∧ W.cell? (x.add (i * 3 + 1)) = some (.int .i64 q.2.1) ∧ ∃ la lc, W.cell? (x.add (i * 3 + 2)) = some (.slice la q.2.2.length lc) ∧ LgAt W la q.2.2 ∧ q.2.2.length ≤ lc ∧ lc ≤ 9223372036854775807 := by
      intro i hi
      obtain ⟨cs', h1, h2⟩ := hx i (by omega)
      rw [Try.cellsEdge] at h1
      obtain ⟨_, hlen, hcell⟩ := World.cells?_some h1
      obtain ⟨xs, k, hk, hxy, _, hxl, hff⟩ := DataW.trod_struct Try.underlying51 h2
      match xs, hxl, cs', hlen with
      | [y0, y1, y2], _, [v0, v1, v2], _ =>
        have g0 := hff 0 _ rfl
        have g1 := hff 1 _ rfl
        have g2 := hff 2 _ rfl
        simp [Try.cellsInt, Try.cellsLegs] at g0 g1 g2
        have e0 := hcell 0 (by omega)
        have e1 := hcell 1 (by omega)
        have e2 := hcell 2 (by omega)
        rw [add_add] at e0 e1 e2
        obtain ⟨z0, f0, _, _⟩ := DataW.trod_int Try.underlying3 g0
        obtain ⟨z1, f1, _, _⟩ := DataW.trod_int Try.underlying3 g1
        obtain ⟨la, lc, ls, f2, hL, hn, hm'⟩ := open_legs_c (d := y2.1) (ps := y2.2) g2
        simp only [List.cons.injEq, and_true] at f0 f1 f2
        subst f0
        subst f1
        subst f2
        exact ⟨(z0, z1, ls), by simpa using e0, by simpa using e1, la, lc, by simpa using e2, hL, hn, hm'⟩
    obtain ⟨q, hq⟩ := choose_lt each
    refine ⟨some x, m, (List.range len).map q, by rw [hcs]; simp, ?_, by simpa using hl, by unfold maxLen at hm; omega⟩
    by_cases h0 : len = 0
    · subst h0; exact .inl (by simp)
    · obtain ⟨b, off, spot⟩ := x
      have hc0 := (hq 0 (by omega)).1
      have hspot : spot = none := by simpa [Addr.add] using World.cell?_spot hc0
      subst hspot
      have hlt := World.block_lt_of_cell? W _ hc0
      refine .inr ⟨b, off, rfl, by simpa [Addr.add] using hlt, fun j hj => ?_⟩
      simp only [List.length_map, List.length_range] at hj
      have hg : ((List.range len).map q)[j]'(by simpa using hj) = q j := by simp
      rw [hg]
      obtain ⟨r0, r1, la, lc, r2, r3⟩ := hq j hj
      rw [add_plain] at r0 r1 r2
      exact ⟨by simpa [Nat.add_assoc] using r0, by simpa [Nat.add_assoc] using r1, la, lc, by simpa [Nat.add_assoc] using r2, r3⟩

theorem three_ofG {α : Type} {cs : Array α} (h : cs.size = 3) : ∃ x y z, cs = #[x, y, z] := by
  obtain ⟨l⟩ := cs
  match l, h with
  | [x, y, z], _ => exact ⟨x, y, z, rfl⟩

set_option maxRecDepth 100000 in
theorem open_graph {H : Type} {enc : TypeId × Value → H} {W : World} {r : Reach} {b0 : Nat} {v : Value} {d : DataW H} {ps : List MemPlace}
    (hv : Value.okWide Try.prog W r b0 25 v) (h : DataW.Trod enc Try.prog W 0 (fun _ => true) true 25 v d ps) :
    ∃ (g : Gr) (la ea : Option Addr) (lc ec : Nat), v = .agg #[.int .i64 g.hor, .slice la g.lives.length lc, .slice ea g.edges.length ec] ∧ GAt W la ea g ∧ g.lives.length ≤ lc ∧ lc ≤ 9223372036854775807 := by
  obtain ⟨cs, rfl, hsz⟩ := okWide_struct Try.underlying25 hv
  obtain ⟨v0, v1, v2, rfl⟩ := three_ofG (hsz.trans Try.cellsGraph)
  obtain ⟨fuel, h2⟩ := h
  obtain ⟨xs, k, hk, hxy, _, hxl, hff⟩ := DataW.trod_struct Try.underlying25 h2
  match xs, hxl with
  | [y0, y1, y2], _ =>
    have g0 := hff 0 _ rfl
    have g1 := hff 1 _ rfl
    have g2 := hff 2 _ rfl
    simp [Try.cellsInt, Try.cellsIvls, Try.cellsEdges, Value.cells] at g0 g1 g2
    obtain ⟨z0, f0, _, _⟩ := DataW.trod_int Try.underlying3 g0
    obtain ⟨la, lc, ls, f1, hL, hn, hm⟩ := open_ivs_c (d := y1.1) (ps := y1.2) g1
    obtain ⟨ea, ec, es, f2, hE, hn2, hm2⟩ := open_eds_c (d := y2.1) (ps := y2.2) g2
    simp only [List.cons.injEq, and_true] at f0 f1 f2
    subst f0
    subst f1
    subst f2
    exact ⟨⟨z0, ls, es⟩, la, ea, lc, ec, rfl, ⟨hL, hE, by simp only; omega, by simp only; omega⟩, hn, hm⟩

end Go.Proofs.Ytkgbgkcbflicmac

namespace Go.Proofs.Ytkgbgkcbflicmac
open Go.ChangeShapes Go.WideShapes Go.ChangeAt Go.RowKit Go.Deep

set_option maxRecDepth 100000 in
theorem Try.cellsHop : Try.prog.cellsOf 48 = 2 := by kernel_rfl

set_option maxRecDepth 100000 in
theorem open_hops {H : Type} {enc : TypeId × Value → H} {W : World} {a : Option Addr} {len cap : Nat} {d : DataW H} {ps : List MemPlace}
    (h : DataW.Trod enc Try.prog W 0 (fun _ => true) true 41 (.slice a len cap) d ps) : ∃ l : List (Int × Int), l.length = len ∧ IvAt W a l ∧ len ≤ cap ∧ cap ≤ 9223372036854775807 := by
  obtain ⟨fuel, hf⟩ := h
  rcases open_slice_pairs Try.underlying41 Try.underlying48 Try.cellsHop rfl rfl Try.cellsInt Try.cellsInt hf with ⟨hcs, _⟩ | ⟨x, l, c, m, n, V0, V1, D0, D1, P0, P1, hcs, _, hl, hm, hmm, _, hcell⟩
  · simp [Value.cells] at hcs
    obtain ⟨rfl, rfl, rfl⟩ := hcs
    exact ⟨[], rfl, .inl rfl, Nat.le_refl _, by omega⟩
  · simp [Value.cells] at hcs
    obtain ⟨rfl, rfl, rfl⟩ := hcs
    simp only [if_true] at hmm
    subst hmm
    have each : ∀ i, i < len → ∃ q : Int × Int, W.cell? (x.add (i * 2)) = some (.int .i64 q.1) ∧ W.cell? (x.add (i * 2 + 1)) = some (.int .i64 q.2) := by
      intro i hi
      obtain ⟨h0, h1, t0, t1⟩ := hcell i (by omega)
      obtain ⟨z0, e0, _, _⟩ := DataW.trod_int Try.underlying3 t0
      obtain ⟨z1, e1, _, _⟩ := DataW.trod_int Try.underlying3 t1
      simp only [List.cons.injEq, and_true] at e0 e1
      exact ⟨(z0, z1), by rw [h0, e0], by rw [h1, e1]⟩
    obtain ⟨q, hq⟩ := choose_lt each
    refine ⟨(List.range len).map q, by simp, ?_, hl, by unfold maxLen at hm; omega⟩
    by_cases h0 : len = 0
    · subst h0; exact .inl (by simp)
    · obtain ⟨b, off, spot⟩ := x
      have hc0 := (hq 0 (by omega)).1
      have hspot : spot = none := by simpa [Addr.add] using World.cell?_spot hc0
      subst hspot
      have hlt := World.block_lt_of_cell? W _ hc0
      refine .inr ⟨b, off, rfl, by simpa [Addr.add] using hlt, fun j hj => ?_⟩
      simp only [List.length_map, List.length_range] at hj
      have hg : ((List.range len).map q).getD j (0, 0) = q j := by simp [List.getD_eq_getElem?_getD, hj]
      rw [hg]
      have := hq j hj
      rw [add_plain, add_plain] at this
      simpa [Nat.add_assoc] using this

set_option maxRecDepth 100000 in
theorem two_ofH {α : Type} {cs : Array α} (h : cs.size = 2) : ∃ x y, cs = #[x, y] := by
  obtain ⟨l⟩ := cs
  match l, h with
  | [x, y], _ => exact ⟨x, y, rfl⟩
set_option maxRecDepth 100000 in
theorem open_hop {H : Type} {enc : TypeId × Value → H} {W : World} {r : Reach} {b0 : Nat} {v : Value} {d : DataW H} {ps : List MemPlace}
    (hv : Value.okWide Try.prog W r b0 48 v) (h : DataW.Trod enc Try.prog W 0 (fun _ => true) true 48 v d ps) : ∃ p : Int × Int, v = .agg #[.int .i64 p.1, .int .i64 p.2] := by
  obtain ⟨cs, rfl, hsz⟩ := okWide_struct Try.underlying48 hv
  obtain ⟨v0, v1, rfl⟩ := two_ofH (hsz.trans Try.cellsHop)
  obtain ⟨fuel, h2⟩ := h
  obtain ⟨xs, k, hk, hxy, _, hxl, hff⟩ := DataW.trod_struct Try.underlying48 h2
  match xs, hxl with
  | [y0, y1], _ =>
    have g0 := hff 0 _ rfl
    have g1 := hff 1 _ rfl
    simp [Try.cellsInt, Value.cells] at g0 g1
    obtain ⟨z0, f0, _, _⟩ := DataW.trod_int Try.underlying3 g0
    obtain ⟨z1, f1, _, _⟩ := DataW.trod_int Try.underlying3 g1
    simp only [List.cons.injEq, and_true] at f0 f1
    subst f0
    subst f1
    exact ⟨(z0, z1), rfl⟩

set_option maxRecDepth 100000 in
theorem open_zs {H : Type} {enc : TypeId × Value → H} {W : World} {a : Option Addr} {len cap : Nat} {d : DataW H} {ps : List MemPlace}
    (h : DataW.Trod enc Try.prog W 0 (fun _ => true) true 28 (.slice a len cap) d ps) : ∃ l : List Int, l.length = len ∧ ZsAt W a l ∧ len ≤ cap ∧ cap ≤ 9223372036854775807 := by
  obtain ⟨fuel, hf⟩ := h
  rcases open_slice Try.underlying28 hf with ⟨hcs, _⟩ | ⟨x, l, c, m, n, D, Pl, hcs, _, hl, hm, hmm, _, hx⟩
  · simp [Value.cells] at hcs
    obtain ⟨rfl, rfl, rfl⟩ := hcs
    exact ⟨[], rfl, .inl rfl, Nat.le_refl _, by omega⟩
  · simp [Value.cells] at hcs
    obtain ⟨rfl, rfl, rfl⟩ := hcs
    simp only [if_true] at hmm
    subst hmm
    have each : ∀ i, i < len → ∃ q : Int, W.cell? (x.add i) = some (.int .i64 q) := by
      intro i hi
      obtain ⟨cs', h1, h2⟩ := hx i (by omega)
      rw [Try.cellsInt, Nat.mul_one] at h1
      obtain ⟨_, hlen, hcell⟩ := World.cells?_some h1
      obtain ⟨z0, f0, _, _⟩ := DataW.trod_int Try.underlying3 h2
      subst f0
      have e0 := hcell 0 (by simp)
      exact ⟨z0, by simpa [add_add] using e0⟩
    obtain ⟨q, hq⟩ := choose_lt each
    refine ⟨(List.range len).map q, by simp, ?_, hl, by unfold maxLen at hm; omega⟩
    by_cases h0 : len = 0
    · subst h0; exact .inl (by simp)
    · obtain ⟨b, off, spot⟩ := x
      have hc0 := hq 0 (by omega)
      have hspot : spot = none := by simpa [Addr.add] using World.cell?_spot hc0
      subst hspot
      have hlt := World.block_lt_of_cell? W _ hc0
      refine .inr ⟨b, off, rfl, by simpa [Addr.add] using hlt, fun j hj => ?_⟩
      simp only [List.length_map, List.length_range] at hj
      have := hq j hj
      rw [add_plain] at this
      simpa [hj] using this

end Go.Proofs.Ytkgbgkcbflicmac

namespace Go.Proofs.Ytkgbgkcbflicmac
open Go.ChangeShapes Go.WideShapes Go.ChangeAt Go.RowKit

set_option maxRecDepth 100000 in
theorem cheapSays_lifted (os : Os) (started : os.Started) (H : Type) (enc : TypeId × Value → H) :
    ReturnsInHanded {} Try.checked os 3 .any (Rows.cheapSaysSpec.pre6 enc Try.prog Try.f3 Rows.cheapSaysRow.domain false) (Rows.cheapSaysSpec.post enc Try.prog Try.f3 false true false false) := by
  refine returnsInHanded_of_change (C := Try.checked) Try.own started (by kernel_rfl) Try.func3
    (ChangeSpec.witness6 (enc := enc) (C := Try.checked) false ⟨#[], #[.agg #[.int .i64 0, .slice none 0 0, .slice none 0 0], .int .i64 0, .int .i64 0, .int .i64 0], []⟩ 8 (by kernel_rfl) (by kernel_rfl) (by kernel_rfl) (by kernel_rfl)) ?_
  intro W base args ds gs before hval0 hW hcnd _
  have hval : ∀ (j : Nat) t v, Try.f3.params[j]? = some t → args[j]? = some v → Value.okWide Try.prog W .any base t v := hval0
  have hW' := hW
  obtain ⟨p, q, hA0, hV, rfl, hfz, hnd⟩ := hW
  have hA : DataW.TrodAll enc Try.prog W 0 (fun _ => true) true Try.f3.params.toList args.toList ds p := hA0
  rw [Try.params3] at hA hval
  obtain ⟨v0, vs0, d0, ds0, p0, q0, hargs, rfl, rfl, h0, r0⟩ := trodAll_cons hA
  obtain ⟨v1, vs1, d1, ds1, p1, q1, rfl, rfl, rfl, h1, r1⟩ := trodAll_cons r0
  obtain ⟨v2, vs2, d2, ds2, p2, q2, rfl, rfl, rfl, h2, r2⟩ := trodAll_cons r1
  obtain ⟨v3, vs3, d3, ds3, p3, q3, rfl, rfl, rfl, h3, r3⟩ := trodAll_cons r2
  obtain ⟨rfl, rfl, rfl⟩ := trodAll_nil r3
  obtain rfl : args = #[v0, v1, v2, v3] := by cases args; simp_all
  obtain ⟨rfl, rfl⟩ := trodVars_none hV
  have k0 := h0
  have lt0 : ∀ x ∈ p0, x.block < W.heap.size := by obtain ⟨m, hm⟩ := k0; exact DataW.trod_lt m _ _ _ hm
  obtain ⟨g0, la0, ea0, lc0, ec0, rfl, hG0, hl0, hm0⟩ := open_graph (hval 0 25 v0 rfl rfl) h0
  obtain ⟨t1, rfl, rfl, rfl, wt1⟩ := open_int Try.underlying3 (hval 1 3 v1 rfl rfl) h1
  obtain ⟨t2, rfl, rfl, rfl, wt2⟩ := open_int Try.underlying3 (hval 2 3 v2 rfl rfl) h2
  obtain ⟨t3, rfl, rfl, rfl, wt3⟩ := open_int Try.underlying3 (hval 3 3 v3 rfl rfl) h3
  clear hA0 hval0
  refine (cheapSays_walk g0 la0 ea0 lc0 ec0 t1 t2 t3 W hG0).mono fun e W' ⟨he, bel⟩ => ?_
  subst he
  exact ⟨_, rfl, _, _, _, [], _, [], hW', trodAll_mk1 (shut_bool Try.underlying4 _), (trodAll_cons_mk (Below.trod Try.laidOut (by kernel_rfl) (of_decide_eq_true (by kernel_rfl)) k0 bel lt0) (trodAll_cons_mk (shut_int Try.underlying3 wt1) (trodAll_cons_mk (shut_int Try.underlying3 wt2) (trodAll_cons_mk (shut_int Try.underlying3 wt3) trodAll_mk0)))), rfl, bel.frame _, fun h => by cases h⟩

theorem cheapSays_holds : Rows.CheapSaysSaid :=
  OpenClaim.holds_of_wide 3 Try.f3 rfl rfl rfl rfl rfl rfl rfl ⟨rfl, rfl, rfl, rfl, rfl⟩ rfl rfl rfl rfl rfl (by kernel_rfl) Try.func3 (by kernel_rfl)
    (of_decide_eq_true (by kernel_rfl)) (by unfold Func.isWrapper; first | (rw [if_pos (by decide +kernel)]; kernel_rfl) | (rw [if_neg (by decide +kernel)]; exact ⟨rfl, rfl⟩))
    (fun os started H enc _ => cheapSays_lifted os started H enc)

end Go.Proofs.Ytkgbgkcbflicmac
