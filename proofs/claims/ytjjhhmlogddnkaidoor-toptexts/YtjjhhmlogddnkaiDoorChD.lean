/-
  What visitsFrom, atLast and leastPrices of the program's states answer; Costs and Hops.
-/
import Derived.Test.YtjjhhmlogddnkaiDoorChC
import Derived.Test.YtjjhhmlogddnkaiDoorErB
namespace Go.Proofs.YtjjhhmlogddnkaiDoor
open Go.RowKit

/-- the states of who is at v at t and has paid nothing yet -/
def VisOk (g : Gr) (pr : Ri → Int) (v t : Int) (M : Mp) : Prop := (aliveB t g.lives v = true ∧ SpE g (F1 v t) pr M) ∨ (aliveB t g.lives v = false ∧ M = fun _ _ => none)
theorem VisOk.snd {g : Gr} {pr : Ri → Int} {v t : Int} {M : Mp} (h : VisOk g pr v t M) {x y : Int} {z : Vs} (hz : M x y = some z) : Pay g pr v t x y z.1 := by
  rcases h with ⟨ha, h⟩ | ⟨_, rfl⟩
  · exact ⟨ha, h.snd _ _ _ hz⟩
  · cases hz
theorem VisOk.all {g : Gr} {pr : Ri → Int} {v t : Int} {M : Mp} (h : VisOk g pr v t M) {x y p : Int} (hp : Pay g pr v t x y p) : ∃ z, M x y = some z ∧ z.1 ≤ p := by
  rcases h with ⟨_, h⟩ | ⟨ha, _⟩
  · exact h.all _ _ _ hp.2
  · rw [hp.1] at ha; cases ha
theorem Pay.waits {g : Gr} (R : Right g) {pr : Ri → Int} {v0 t0 v t t' p : Int} (h0 : 0 ≤ v0) (h : Pay g pr v0 t0 v t p) (ht : t ≤ t') (ha : aliveB t' g.lives v = true) : Pay g pr v0 t0 v t' p := ⟨h.1, h.2.waits R (F1_ok h0 h.1) ht ha⟩
theorem Pay.place {g : Gr} (R : Right g) {pr : Ri → Int} {v0 t0 v t p : Int} (h0 : 0 ≤ v0) (h : Pay g pr v0 t0 v t p) : 0 ≤ v ∧ v < g.lives.length ∧ aliveB t g.lives v = true ∧ 0 ≤ t ∧ t < g.hor ∧ t0 ≤ t := h.2.place R (F1_ok h0 h.1)
/-- a state's price, or Inf -/
def prF (M : Mp) (v t : Int) : Int := match M v t with | none => 1099511627776 | some z => z.1
/-- the last time of a vertex -/
def lastT (g : Gr) (v : Nat) : Int := (g.lives.getD v (0, 0)).2 - 1
theorem lastT_at {g : Gr} {v : Nat} (hv : v < g.lives.length) : lastT g v = g.lives[v].2 - 1 := by unfold lastT; rw [List.getD_eq_getElem?_getD, List.getElem?_eq_getElem hv]; rfl
theorem last_alive {g : Gr} (R : Right g) {v : Nat} (hv : v < g.lives.length) : aliveB (lastT g v) g.lives (v : Int) = true ∧ (∀ t, aliveB t g.lives (v : Int) = true → t ≤ lastT g v) ∧ 0 ≤ lastT g v ∧ lastT g v < 100 := by
  have h := R.life _ (List.getElem_mem hv)
  have hh := R.hor
  rw [lastT_at hv]
  refine ⟨?_, fun t ht => ?_, by omega, by omega⟩
  · rw [aliveB_at _ _ _ hv]; exact (hasB_iff _ _ _).2 (by omega)
  · rw [aliveB_at _ _ _ hv] at ht; have := (hasB_iff _ _ _).1 ht; omega
/-- all but the first k numbers are 0 -/
def fillL (f : Nat → Int) (n k : Nat) : List Int := (List.range n).map fun x => if x < k then f x else 0
theorem fill_len (f : Nat → Int) (n k : Nat) : (fillL f n k).length = n := by simp [fillL]
theorem fill_get (f : Nat → Int) (n k x : Nat) (hx : x < n) : (fillL f n k).getD x 0 = if x < k then f x else 0 := by simp [fillL, List.getD_eq_getElem?_getD, hx]
theorem fill_zero (f : Nat → Int) (n : Nat) : fillL f n 0 = List.replicate n 0 := by
  refine list_ext_gd (by simp [fillL]) fun x hx => ?_
  rw [fill_len] at hx
  rw [fill_get _ _ _ _ hx]
  simp [List.getD_eq_getElem?_getD, hx]
theorem fill_set (f : Nat → Int) (n k : Nat) (hk : k < n) : (fillL f n k).set k (f k) = fillL f n (k + 1) := by
  refine list_ext_gd (by simp [fillL]) fun x hx => ?_
  rw [List.length_set, fill_len] at hx
  rw [getD_setI _ _ _ _ (by rw [fill_len]; exact hk), fill_get _ _ _ _ hx, fill_get _ _ _ _ hx]
  by_cases e : x = k
  · subst e; simp
  · rw [if_neg e]
    by_cases h : x < k
    · rw [if_pos h, if_pos (by omega)]
    · rw [if_neg h, if_neg (by omega)]
theorem least_of {g : Gr} (R : Right g) {pr : Ri → Int} {v t : Int} (h0 : 0 ≤ v) {M : Mp} (h : VisOk g pr v t M) : LeastIs g pr v t (fillL (fun x => prF M (x : Int) (lastT g x)) g.lives.length g.lives.length) := by
  refine ⟨fill_len _ _ _, fun x hx => ?_, fun x hx t' p hp => ?_⟩
  · rw [fill_get _ _ _ _ hx, if_pos hx]
    unfold prF
    cases hz : M (x : Int) (lastT g x) with
    | none => exact .inl rfl
    | some z => exact .inr ⟨_, h.snd hz⟩
  · rw [fill_get _ _ _ _ hx, if_pos hx]
    obtain ⟨k1, k2, _⟩ := last_alive R hx
    obtain ⟨z, hz, hzp⟩ := h.all (hp.waits R h0 (k2 _ (hp.place R h0).2.2.1) k1)
    unfold prF; rw [hz]; exact hzp

set_option maxRecDepth 100000 in
theorem atLast_any (g : Gr) (la ea : Option Addr) (lc ec v : Nat) (w : World) (hG : GAt w la ea g) (hR : Right g) (hv : v < g.lives.length) :
    Calls Tryd.prog 36 #[.agg #[.int .i64 g.hor, .slice la g.lives.length lc, .slice ea g.edges.length ec], .int .i64 v] w fun r w' => r = .returned (.agg #[.int .i64 (v : Int), .int .i64 (lastT g v)]) ∧ Below w.heap.size w w' := by
  obtain ⟨_, _, h3, h4⟩ := last_alive hR hv
  rw [lastT_at hv] at h3 h4 ⊢
  obtain ⟨lb, lof, rfl, hlb, l0, l1⟩ : ∃ b off, la = some ⟨b, off, none⟩ ∧ b < w.heap.size ∧ (w.cell? ⟨b, off + v * 2, none⟩ = some (.int .i64 g.lives[v].1) ∧ w.cell? ⟨b, off + v * 2 + 1, none⟩ = some (.int .i64 g.lives[v].2)) := by
    rcases hG.lv with h0 | ⟨b, off, rfl, hbr, hc⟩
    · rw [h0] at hv; simp at hv
    exact ⟨b, off, rfl, hbr, IvAt.get hv hc⟩
  have hvi : (v : Int) < (g.lives.length : Int) := by omega
  have hww : IntKind.i64.wrap (g.lives[v].2 - 1) = g.lives[v].2 - 1 := wrap_nj _ (by omega) (by omega)
  have m1 := fun W (h : Below w.heap.size w W) => (h.cell (p := ⟨lb, lof + v * 2 + 1, none⟩) hlb).trans l1
  have m2 := m1 _ (ptg (gal w (.cells #[.int .i64 g.hor, .slice (some ⟨lb, lof, none⟩) g.lives.length lc, .slice ea g.edges.length ec] 25)) (gal _ (.cells #[.int .i64 0, .int .i64 0] 93)))
  clear hG l0 l1 hR m1
  generalize g.lives[v] = lf at *
  go_enter Tryd.func36, Tryd.ntmps36
  go_wp2
  refine bodyPost_ret (v := .agg #[.int .i64 (v : Int), .int .i64 (lf.2 - 1)]) (by simp [results, Tryd.results36, go_sem]) rfl ⟨rfl, ?_⟩
  exact ptg (gal w _) (gal _ _)

set_option maxRecDepth 100000 in
set_option maxHeartbeats 1000000 in
theorem visitsFrom_any (g : Gr) (la ea : Option Addr) (lc ec : Nat) (pr : Ri → Int) (v t : Int) (fv : FuncId) (eg : ∀ args w, (callFunc fv args).run Tryd.prog w = .ok (.enter fv args) w) (w : World) (hG : GAt w la ea g) (hpl : placeE g v t = 0) (hpr : PrOk g pr)
    (hfv : ∀ r W, Calls Tryd.prog fv #[rideV r] W fun res w' => res = .returned (.int .i64 (pr r)) ∧ Below W.heap.size W w') :
    Calls Tryd.prog 35 #[.agg #[.int .i64 g.hor, .slice la g.lives.length lc, .slice ea g.edges.length ec], .int .i64 v, .int .i64 t, .func (.func fv) #[] #[]] w fun r w' => ∃ b n M, r = .returned (.map (some b)) ∧ MapAt w' b n M ∧ VisOk g pr v t M ∧ Below w.heap.size w w' := by
  obtain ⟨hg0, ⟨hv0, hv1⟩, ht0, ht1⟩ := placeE_zero hpl
  have hR := gChk_right hg0
  have hhor := hR.hor
  have hlv := hR.lvs
  obtain ⟨V, rfl⟩ : ∃ V : Nat, v = (V : Int) := ⟨v.toNat, by omega⟩
  have hVg : V < g.lives.length := by omega
  obtain ⟨w1, hw1⟩ : ∃ x, x = w.alloc (.cells #[.int .i64 g.hor, .slice la g.lives.length lc, .slice ea g.edges.length ec] 25) := ⟨_, rfl⟩
  have B0 : GBx w w1 w.heap.size g la ea lc ec := by rw [hw1]; exact gbx_start w g la ea lc ec 25
  obtain ⟨w2, hw2⟩ : ∃ x, x = w1.alloc (.map #[] 0) := ⟨_, rfl⟩
  have hM2 : MapAt w2 w1.heap.size 0 (fun _ _ => none) := by rw [hw2]; exact mapAt_made w1
  have b2 : Below w1.heap.size w1 w2 := by rw [hw2]; exact gal w1 _
  have B2 := B0.below b2
  have hG2 := hG.below B2.bel
  have s1 : w.heap.size < w1.heap.size := by rw [hw1]; simp
  obtain ⟨lb, lof, rfl, hlb, l0, l1⟩ : ∃ b off, la = some ⟨b, off, none⟩ ∧ b < w2.heap.size ∧ (w2.cell? ⟨b, off + V * 2, none⟩ = some (.int .i64 g.lives[V].1) ∧ w2.cell? ⟨b, off + V * 2 + 1, none⟩ = some (.int .i64 g.lives[V].2)) := by
    rcases hG2.lv with h0 | ⟨b, off, rfl, hbr, hc⟩
    · rw [h0] at hVg; simp at hVg
    exact ⟨b, off, rfl, hbr, IvAt.get hVg hc⟩
  have hVi : (V : Int) < (g.lives.length : Int) := by omega
  have hal := fun W => jalive_any g.lives[V].1 g.lives[V].2 t W
  rw [← aliveB_at t g.lives V hVg] at hal
  have g0 := B2.c0
  have g1 := B2.c1
  have g2 := B2.c2
  have hmm := @run_makeMap Tryd.prog
  have hw1s := hw1.symm
  have hw2s := hw2.symm
  have HB := hideg (fun W (h : Below w2.heap.size w2 W) => (B2.below h).bel)
  have HM := hideg (fun W (h : Below w2.heap.size w2 W) => hM2.below h)
  have HB2 := hideg B2
  have HG2 := hideg hG2
  clear hG hw1 hw2 B0 B2 hG2 hM2 hg0
  cases ha : aliveB t g.lives (V : Int) with
  | false =>
    rw [ha] at hal
    have HV : Hid (VisOk g pr (V : Int) t (fun _ _ => none)) := .inr ⟨ha, rfl⟩
    clear ha hR hpl
    generalize g.lives[V] = lf at *
    go_enter Tryd.func35, Tryd.ntmps35
    go_wp2_with fail
    refine (hal _).mono ?_
    rintro r w3 ⟨rfl, hb3⟩
    have HM3 := hideg (HM.out w3 hb3)
    have HB3 := hideg (HB.out w3 hb3)
    clear hal hb3 g0 g1 g2 l0 l1
    go_wp2
    go_ret
    exact ⟨_, _, _, rfl, HM3.out, HV.out, HB3.out⟩
  | true =>
    rw [ha] at hal
    have hF := F1_ok (g := g) (v0 := (V : Int)) (t0 := t) hv0 ha
    have hPb : ∀ x y p, Pd g (F1 (V : Int) t) pr x y p → -1000000 ≤ p ∧ p ≤ 1000000 := fun x y p h => by
      have h1 := h.range hR hpr hv0 ha
      have h2 := h.place hR hF
      omega
    have HS := hideg (fun b n M0 W (hGW : GAt W (some ⟨lb, lof, none⟩) ea g) (hMW : MapAt W b n M0) (hn : n ≤ 200) (hM0 : ∀ x y, (M0 x y).map (·.1) = F1 (V : Int) t x y) => spread_any g (some ⟨lb, lof, none⟩) ea lc ec (F1 (V : Int) t) pr t fv eg b n M0 W hGW hR hF hMW hn ⟨ht0, ht1⟩ hM0 hpr hPb hfv)
    have HV : Hid (∀ M, SpE g (F1 (V : Int) t) pr M → VisOk g pr (V : Int) t M) := fun M h => .inl ⟨ha, h⟩
    clear ha hR hpl hF hPb hpr hfv eg
    generalize g.lives[V] = lf at *
    go_enter Tryd.func35, Tryd.ntmps35
    go_wp2_with fail
    refine (hal _).mono ?_
    rintro r w3 ⟨rfl, hb3⟩
    have M3 := HM.out w3 hb3
    have G3 := HG2.out.below hb3
    have B3 := HB2.out.below hb3
    obtain ⟨w4, hup, hM4, hg4⟩ := M3.store (by unfold maxLen; omega) (v := (V : Int)) (t := t) (wi_small (by omega) (by omega)) (wi_small (by omega) (by omega)) (0, 0, 0, 0, 0, 0, 0)
    simp only [keyV, encV_mk] at hup
    have G4 := M3.gat hg4 G3
    obtain ⟨k0, k1, k2⟩ := GBx.gby M3 hg4 B3
    have hSp := HS.out w1.heap.size (0 + 1) _ w4 G4 hM4 (by omega) (fun x y => by
      unfold mset F1
      split <;> rfl)
    have HB4 : Hid (∀ W, w4.grownBy W (some w1.heap.size) → Below w.heap.size w W) := fun W h => (B3.bel.grown hg4 B3.bel.size (fun k hk => by cases hk; omega)).grown h (Nat.le_trans B3.bel.size hg4.size) (fun k hk => by cases hk; omega)
    clear hal hb3 g0 g1 g2 l0 l1 M3 G3 B3 hM4 hg4 G4 HS
    go_wp2_with fail
    refine hSp.mono ?_
    rintro r w5 ⟨⟨vv, rfl⟩, ⟨n5, M5, hM5, hE5⟩, hg5⟩
    have HM5 := hideg hM5
    have HE5 := hideg (HV.out _ hE5)
    have HB5 := hideg (HB4.out w5 hg5)
    clear hSp hM5 hE5 hg5 k0 k1 k2 hup HB4
    go_wp2
    go_ret
    exact ⟨_, _, _, rfl, HM5.out, HE5.out, HB5.out⟩

end Go.Proofs.YtjjhhmlogddnkaiDoor
