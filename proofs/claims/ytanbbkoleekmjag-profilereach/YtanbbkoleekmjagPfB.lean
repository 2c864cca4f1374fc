/-
  What Of of the program answers: the map of the times at which one comes.
-/
import Derived.Test.YtanbbkoleekmjagPfA
import Derived.Test.YtanbbkoleekmjagPBld
import Derived.Test.YtanbbkoleekmjagBMath
namespace Go.Proofs.Ytanbbkoleekmjag
open Go.RowKit

/-- n numbers in a row from a on -/
def intsL (a : Int) (n : Nat) : List Int := (List.range n).map fun (k : Nat) => a + (k : Int)
theorem intsL_len (a : Int) (n : Nat) : (intsL a n).length = n := by simp [intsL]
theorem intsL_succ (a : Int) (n : Nat) : (intsL a (n + 1)).map (Value.int .i64) = (intsL a n).map (Value.int .i64) ++ [.int .i64 (a + (n : Int))] := by simp [intsL, List.range_succ]
theorem mem_intsL {a x : Int} {n : Nat} : x ∈ intsL a n ↔ a ≤ x ∧ x < a + (n : Int) := by
  simp only [intsL, List.mem_map, List.mem_range]
  constructor
  · rintro ⟨k, hk, rfl⟩; omega
  · intro h; exact ⟨(x - a).toNat, by omega, by omega⟩
/-- what is told at all whole times turns at them alone -/
theorem turns_all {S : List Int} {f : Int → Option Int} {a b : Int} (hab : a ≤ b) (hS : ∀ x, x ∈ S ↔ a ≤ x ∧ x ≤ b) (h0 : ∀ t, t < a → f t = none) (h1 : ∀ t, b ≤ t → f t = none) : MTurns S f := by
  refine ⟨fun s t hst h => ?_, fun t h => ?_, fun t h => ?_⟩
  · by_cases e : s = t
    · rw [e]
    · by_cases c1 : t < a
      · rw [h0 s (by omega), h0 t c1]
      · by_cases c2 : b ≤ s
        · rw [h1 s c2, h1 t (by omega)]
        · exfalso
          by_cases c3 : s < a
          · exact h a ((hS a).2 ⟨Int.le_refl _, hab⟩) ⟨c3, by omega⟩
          · exact h (s + 1) ((hS _).2 ⟨by omega, by omega⟩) ⟨by omega, by omega⟩
  · exact h0 t (h a ((hS a).2 ⟨Int.le_refl _, hab⟩))
  · exact h1 t (h b ((hS b).2 ⟨hab, Int.le_refl _⟩))
/-- when one comes from v at t to q -/
def profF (g : Gr) (v q : Nat) (t : Int) : Option Int := if aliveB t g.lives (v : Int) = true ∧ (erF g (v : Int) t).1.getD q 0 ≠ 1099511627776 then some ((erF g (v : Int) t).1.getD q 0) else none
theorem profF_life {g : Gr} {v q : Nat} (hv : v < g.lives.length) {t : Int} (h : ¬ (g.lives[v].1 ≤ t ∧ t < g.lives[v].2)) : profF g v q t = none := by
  unfold profF
  rw [if_neg (fun k => h (by have := (life_at hv t).1 k.1; rw [life_get hv] at this; exact this))]
theorem profF_val {g : Gr} (R : Right g) {v q : Nat} (hq : q < g.lives.length) {t y : Int} (h : profF g v q t = some y) : Rch g (v : Int) t (q : Int) y ∧ t ≤ y ∧ y < g.hor := by
  unfold profF at h
  split at h
  · rename_i c
    obtain ⟨ha, hn⟩ := c
    have E := (erF_ok R (v := (v : Int)) (by omega) ha).1
    rcases E.is q hq with e | e
    · exact absurd e hn
    · simp only [Option.some.injEq] at h
      rw [h] at e
      exact ⟨e, e.le R, (e.place R (by omega)).2.2.2⟩
  · cases h
theorem profF_near {g : Gr} (R : Right g) {v q : Nat} (hq : q < g.lives.length) {t y : Int} (h : profF g v q t = some y) : nearB y := by
  obtain ⟨h1, h2, h3⟩ := profF_val R hq h
  have h4 := alive_hor R h1.src
  have h5 := R.hor
  unfold nearB
  omega
theorem profF_turns {g : Gr} (R : Right g) {v q : Nat} (hv : v < g.lives.length) {a b : Int} (h0 : a ≤ g.lives[v].1) (h1 : g.lives[v].2 ≤ b) {S : List Int} (hS : ∀ x, x ∈ S ↔ a ≤ x ∧ x ≤ b) : MTurns S (profF g v q) := by
  have := R.life _ (List.getElem_mem hv)
  exact turns_all (by omega) hS (fun t ht => profF_life hv (by omega)) (fun t ht => profF_life hv (by omega))
/-- what Of tells -/
def OfIs (g : Gr) (v q e : Int) (m : List (Int × Int × Int)) : Prop :=
  (gChk g ≠ 0 ∧ e = gChk g ∧ m = []) ∨ (gChk g = 0 ∧ ¬ ((0 ≤ v ∧ v < (g.lives.length : Int)) ∧ 0 ≤ q ∧ q < (g.lives.length : Int)) ∧ e = 4 ∧ m = []) ∨
  (gChk g = 0 ∧ (∃ V Q : Nat, v = (V : Int) ∧ q = (Q : Int) ∧ V < g.lives.length ∧ Q < g.lives.length ∧ ∀ t, tel m t = profF g V Q t) ∧ e = 0 ∧ MCan m ∧ mchk m = 0)

set_option maxRecDepth 100000 in
theorem pOf1_any (bx b H c T : Nat) (x : Int) (w : World) (hbx : w.cell? ⟨bx, 0, none⟩ = some (.slice (some ⟨b, 0, none⟩) H c)) (hT : T < H) (hx : w.cell? ⟨b, T, none⟩ = some (.int .i64 x)) :
    Calls Try.prog 36 #[.int .i64 (T : Int), .pointer (some ⟨bx, 0, none⟩)] w fun e w' => e = .returned (.tuple #[.int .i64 x, .bool (x != 1099511627776)]) ∧ Below w.heap.size w w' := by
  have hTi : (T : Int) < (H : Int) := by omega
  have HB := hideg (fun n => below_drewN (Below.refl w.heap.size w) n)
  go_enter Try.func36, Try.ntmps36
  go_wp2_with fail
  go_quiet (fail)
  go_wp2
  go_ret2
  exact ⟨rfl, HB.out _⟩

theorem inR_vtx (v : Int) (n : Nat) : inR v 0 ((n : Int) - 1) = true ↔ 0 ≤ v ∧ v < (n : Int) := by rw [inR_iff]; omega

set_option maxRecDepth 100000 in
set_option maxHeartbeats 1000000 in
theorem pOf_any (g : Gr) (la ea : Option Addr) (lc ec : Nat) (v q : Int) (w : World) (hG : GAt w la ea g) :
    Calls Try.prog 12 #[.agg #[.int .i64 g.hor, .slice la g.lives.length lc, .slice ea g.edges.length ec], .int .i64 v, .int .i64 q] w fun r w' => ∃ u e m, r = .returned (.tuple #[u, .int .i64 e]) ∧ OfIs g v q e m ∧ w'.ownsRow w.heap.size 39 3 u m.length (enc3 m) ∧ Below w.heap.size w w' := by
  obtain ⟨i0, hi, hz0, hz1, hz2⟩ := info_parts Try.infoInt
  have B0 := gbx_start w g la ea lc ec 25
  have h1 := gCheck_any g la ea lc ec _ (hG.below B0.bel)
  by_cases e1 : gChk g = 0
  case neg =>
    have HP : Hid (OfIs g v q (gChk g) []) := .inl ⟨e1, rfl, rfl⟩
    have d1 : (gChk g != 0) = true := by simpa using e1
    generalize gChk g = n at *
    clear e1 hG
    go_enter Try.func12, Try.ntmps12
    go_wp2_with fail
    refine h1.mono ?_
    rintro r w1 ⟨rfl, hb1⟩
    have hbF := (B0.below hb1).bel
    clear h1 hb1 B0
    go_wp2
    (try simp only [Exit.inBlock, Exit.then]); refine bodyPost_ret (results_two_e rfl _ _ _) rfl ?_
    exact ⟨_, _, _, rfl, HP.out, World.ownsRow_nil _ _ _ _, hbF⟩
  have hR := gChk_right e1
  have hl12 := hR.lvs
  have hv := fun W => gHasV_any g.hor la ea g.lives.length lc g.edges.length ec v W hl12
  have hq := fun W => gHasV_any g.hor la ea g.lives.length lc g.edges.length ec q W hl12
  have HNo : Hid (¬ (inR v 0 ((g.lives.length : Int) - 1) = true ∧ inR q 0 ((g.lives.length : Int) - 1) = true) → OfIs g v q 4 []) := fun h => .inr (.inl ⟨e1, by rw [inR_vtx, inR_vtx] at h; exact h, rfl, rfl⟩)
  have HYes : Hid (∀ (V Q : Nat) m, v = (V : Int) → q = (Q : Int) → V < g.lives.length → Q < g.lives.length → (∀ t, tel m t = profF g V Q t) → MCan m → mchk m = 0 → OfIs g v q 0 m) := fun V Q m a b c d e f h => .inr (.inr ⟨e1, ⟨V, Q, a, b, c, d, e⟩, rfl, f, h⟩)
  rw [e1] at h1
  have HVi := hideg (inR_vtx v g.lives.length)
  have HQi := hideg (inR_vtx q g.lives.length)
  have HRt := hideg hR
  have HG0 := hideg hG
  clear e1 hR hG
  cases bv : inR v 0 ((g.lives.length : Int) - 1) with
  | false =>
    rw [bv] at hv HNo
    have HF := hideg (HNo.out (by simp))
    clear HYes HNo HVi HQi hq bv
    go_enter Try.func12, Try.ntmps12
    go_wp2_with fail
    refine h1.mono ?_
    rintro r w1 ⟨rfl, hb1⟩
    have B1 := B0.below hb1
    have g0 := B1.c0
    have g1 := B1.c1
    have g2 := B1.c2
    clear h1 hb1 B0
    go_wp2_with fail
    refine (hv _).mono ?_
    rintro r w2 ⟨rfl, hb2⟩
    have hbF := (B1.below hb2).bel
    clear hv hb2 B1 g0 g1 g2
    go_wp2
    (try simp only [Exit.inBlock, Exit.then]); refine bodyPost_ret (results_two_e rfl _ _ _) rfl ?_
    exact ⟨_, _, _, rfl, HF.out, World.ownsRow_nil _ _ _ _, hbF⟩
  | true =>
    cases bq : inR q 0 ((g.lives.length : Int) - 1) with
    | false =>
      rw [bv] at hv
      rw [bq] at hq HNo
      have HF := hideg (HNo.out (by simp))
      clear HYes HNo HVi HQi bv bq
      go_enter Try.func12, Try.ntmps12
      go_wp2_with fail
      refine h1.mono ?_
      rintro r w1 ⟨rfl, hb1⟩
      have B1 := B0.below hb1
      have g0 := B1.c0
      have g1 := B1.c1
      have g2 := B1.c2
      clear h1 hb1 B0
      go_wp2_with fail
      refine (hv _).mono ?_
      rintro r w2 ⟨rfl, hb2⟩
      have B2 := B1.below hb2
      clear hv hb2 B1 g0 g1 g2
      have g0 := B2.c0
      have g1 := B2.c1
      have g2 := B2.c2
      go_wp2_with fail
      refine (hq _).mono ?_
      rintro r w3 ⟨rfl, hb3⟩
      have hbF := (B2.below hb3).bel
      clear hq hb3 B2 g0 g1 g2
      go_wp2
      (try simp only [Exit.inBlock, Exit.then]); refine bodyPost_ret (results_two_e rfl _ _ _) rfl ?_
      exact ⟨_, _, _, rfl, HF.out, World.ownsRow_nil _ _ _ _, hbF⟩
    | true =>
      have hv01 := HVi.out.1 bv
      have hq01 := HQi.out.1 bq
      rw [bv] at hv
      rw [bq] at hq
      obtain ⟨V, rfl⟩ : ∃ V : Nat, v = (V : Int) := ⟨v.toNat, by omega⟩
      obtain ⟨Q, rfl⟩ : ∃ Q : Nat, q = (Q : Int) := ⟨q.toNat, by omega⟩
      have hV : V < g.lives.length := by omega
      have hQ : Q < g.lives.length := by omega
      have hVi : (V : Int) < (g.lives.length : Int) := by omega
      obtain ⟨F, hF⟩ : ∃ F : Nat, g.lives[V].1 = (F : Int) := ⟨g.lives[V].1.toNat, by have := (HRt.out.life _ (List.getElem_mem hV)).1; omega⟩
      obtain ⟨E, hE⟩ : ∃ E : Nat, g.lives[V].2 = (E : Int) := ⟨g.lives[V].2.toNat, by have := HRt.out.life _ (List.getElem_mem hV); omega⟩
      obtain ⟨H, hH⟩ : ∃ H : Nat, g.hor = (H : Int) := ⟨g.hor.toNat, by have := HRt.out.hor; omega⟩
      have hFE : F < E ∧ E ≤ H ∧ H ≤ 100 := by have := HRt.out.life _ (List.getElem_mem hV); have := HRt.out.hor; omega
      have HHn : Hid (g.hor.toNat = H) := by show _ = _; omega
      have HHi := hideg hH
      have HFi := hideg hF
      have HEi := hideg hE
      have HSo := hideg (fun W (hb : Below w.heap.size w W) => soonest_any g la ea lc ec Q W (HG0.out.below hb) HRt.out hQ)
      have HMk := hideg (fun m => HYes.out V Q m rfl rfl hV hQ)
      have HPf : Hid (∀ T : Nat, F ≤ T → T < E → aliveB (T : Int) g.lives (V : Int) = true ∧ profF g V Q (T : Int) = if tat (pfF g Q) V T ≠ 1099511627776 then some (tat (pfF g Q) V T) else none) := by
        intro T h1 h2
        have ha : aliveB (T : Int) g.lives (V : Int) = true := (life_at hV _).2 (by rw [life_get hV]; omega)
        refine ⟨ha, ?_⟩
        rw [pf_is HRt.out hQ hV ha]
        unfold profF
        by_cases c : (erF g (V : Int) (T : Int)).1.getD Q 0 = 1099511627776
        · rw [if_neg (fun h => h.2 c), if_neg (fun h => h c)]
        · rw [if_pos ⟨ha, c⟩, if_pos c]
      have HTrn : Hid (∀ S : List Int, (∀ x, x ∈ S ↔ x ∈ intsL (F : Int) (E - F + 1)) → MTurns S (profF g V Q)) := by
        intro S hS
        refine profF_turns HRt.out hV (a := (F : Int)) (b := (E : Int)) (by omega) (by omega) (fun x => ?_)
        rw [hS, mem_intsL]; omega
      have HVal := hideg (fun (s y : Int) (h : profF g V Q s = some y) => profF_near HRt.out hQ h)
      clear HYes HNo HVi HQi bv bq hv01 hq01 hF hE hH
      go_enter Try.func12, Try.ntmps12
      go_wp2_with fail
      refine h1.mono ?_
      rintro r w1 ⟨rfl, hb1⟩
      have B1 := B0.below hb1
      have g0 := B1.c0
      have g1 := B1.c1
      have g2 := B1.c2
      clear h1 hb1 B0
      go_wp2_with fail
      refine (hv _).mono ?_
      rintro r w2 ⟨rfl, hb2⟩
      have B2 := B1.below hb2
      clear hv hb2 B1 g0 g1 g2
      have g0 := B2.c0
      have g1 := B2.c1
      have g2 := B2.c2
      go_wp2_with fail
      refine (hq _).mono ?_
      rintro r w3 ⟨rfl, hb3⟩
      have B3 := B2.below hb3
      clear hq hb3 B2 g0 g1 g2
      have g0 := B3.c0
      have g1 := B3.c1
      have g2 := B3.c2
      have hSo := HSo.out w3 B3.bel
      go_wp2_with fail
      refine hSo.mono ?_
      rintro r w4 ⟨go, bl, rfl, hbl, hTab, hb4⟩
      rw [HHn.out] at hTab
      have hVb : V < bl.length := by rw [hbl]; exact hV
      have oV := hTab.out V hVb
      have B4 := B3.below hb4
      obtain ⟨w5, hw5⟩ : ∃ x, x = w4.alloc (.cells #[.slice (some ⟨bk bl V, 0, none⟩) H (ck bl V)] 30) := ⟨_, rfl⟩
      have B5 : GBx w w5 w.heap.size g la ea lc ec := by rw [hw5]; exact B4.below (gal w4 _)
      have T5 : TabM w5 w3.heap.size go bl H (pfF g Q) := by rw [hw5]; exact hTab.below (gal w4 _)
      have x5 : w5.cell? ⟨w4.heap.size, 0, none⟩ = some (.slice (some ⟨bk bl V, 0, none⟩) H (ck bl V)) := by rw [hw5]; exact new_cell rfl rfl
      have hs5 : w5.heap.size = w4.heap.size + 1 := by rw [hw5]; simp
      have hGA := HG0.out.below B5.bel
      obtain ⟨lb, lof, rfl, hlb, l0, l1⟩ : ∃ b off, la = some ⟨b, off, none⟩ ∧ b < w5.heap.size ∧ w5.cell? ⟨b, off + V * 2, none⟩ = some (.int .i64 (F : Int)) ∧ w5.cell? ⟨b, off + V * 2 + 1, none⟩ = some (.int .i64 (E : Int)) := by
        rcases hGA.lv with h0 | ⟨b, off, e, hbr, hc⟩
        · rw [h0] at hV; simp at hV
        · have := IvAt.get hV hc
          rw [HFi.out, HEi.out] at this
          exact ⟨b, off, e, hbr, this⟩
      have HB5 := hideg B5
      have HT5 := hideg T5
      have HX5 := hideg x5
      have HLc := hideg (⟨l0, l1⟩ : _ ∧ _)
      have hw5s := hw5.symm
      clear hSo HSo g0 g1 g2 B3 B4 hb4 hTab hw5 hGA x5 T5
      have g1 := B5.c1
      clear B5
      go_wp2_with fail
      clear oV hw5s l0 l1 g1
      go_loopw [10, 11] (fun u x wr => ∃ k : Nat, k ≤ E - F + 1 ∧ x = .int .i64 ((F : Int) + (k : Int)) ∧ wr.ownsRow w5.heap.size 3 1 u k ((intsL (F : Int) k).map (Value.int .i64)) ∧ Below w5.heap.size w5 wr) (fun _ x _ => E + 1 - (intOf x).toNat)
      case atStart => exact ⟨0, Nat.zero_le _, by simp, World.ownsRow_nil _ _ _ _, Below.refl _ _⟩
      case round =>
        obtain ⟨k, hk, rfl, hown, hb⟩ := hrel
        have BR := HB5.out.below hb
        have g1 := BR.c1
        have l0 : wr.cell? ⟨lb, lof + V * 2, none⟩ = some (.int .i64 (F : Int)) := (hb.cell (p := ⟨lb, lof + V * 2, none⟩) hlb).trans HLc.out.1
        have l1 : wr.cell? ⟨lb, lof + V * 2 + 1, none⟩ = some (.int .i64 (E : Int)) := (hb.cell (p := ⟨lb, lof + V * 2 + 1, none⟩) hlb).trans HLc.out.2
        have hsz := hb.size
        obtain ⟨tt, htt⟩ : ∃ tt : Nat, (F : Int) + (k : Int) = (tt : Int) := ⟨F + k, by omega⟩
        have HTT := hideg htt
        rw [htt]
        by_cases hlt : k < E - F + 1
        · have hle : (tt : Int) ≤ (E : Int) := by omega
          have htw : IntKind.i64.wrap ((tt : Int) + 1) = (tt : Int) + 1 := wrap_nj _ (by omega) (by omega)
          have HSu := hideg (intsL_succ (F : Int) k)
          have HBb := hideg hb
          clear BR hb htt
          go_wp2_with (at_builtin; refine wpList_append_own _ rfl _ _ 30 rfl w5.heap.size 3 i0 (.int .i64 0) 1 8 Try.underlying30 hi hz0 hz1 hz2 rfl (by decide) _ _ _ rfl (World.ownsRow.alloc (w := wr) hown _) ⟨wr.heap.size, 0, none⟩ 1 1 [.int .i64 (tt : Int)] rfl rfl (cell_one_new _ _ _) (by intro u hu; simp at hu; subst hu; rfl) (by unfold maxLen; omega) (by omega) (by simp; omega) ?_; intro v' w6 hown6 hgrow _)
          have hb6 := (HBb.out.alloc hsz _).grown hgrow (by simp; omega) (fun q hq => (hown.lt q hq).1)
          exact ⟨⟨k + 1, by omega, by have := HTT.out; congr 1; omega, by rw [HSu.out, HTT.out]; exact hown6, hb6⟩, by simp [intOf]; omega⟩
        · have hkE : k = E - F + 1 := by omega
          have hnl : ¬ ((tt : Int) ≤ (E : Int)) := by omega
          subst hkE
          obtain ⟨A, hA⟩ : ∃ A, A = intsL (F : Int) (E - F + 1) := ⟨_, rfl⟩
          have hAl : A.length = E - F + 1 := by rw [hA, intsL_len]
          rw [← hA, ← hAl] at hown
          obtain ⟨ao, ca, rfl, hz⟩ := zsAt_of_owns hown
          have hp : ∀ t, t ∈ A → (∃ u ∈ A, t < u) → ∀ wq, Below wr.heap.size wr wq → Calls Try.prog 36 (#[.int .i64 t] ++ #[.pointer (some ⟨w4.heap.size, 0, none⟩)]) wq fun e w' => (∃ x, e = .returned (.tuple #[.int .i64 x, .bool (profF g V Q t).isSome]) ∧ ∀ y, profF g V Q t = some y → x = y) ∧ Below wq.heap.size wq w' := by
            intro t ht1 ht2 wq hq
            obtain ⟨y, hy, hty⟩ := ht2
            rw [hA, mem_intsL] at ht1 hy
            obtain ⟨T, rfl⟩ : ∃ T : Nat, t = (T : Int) := ⟨t.toNat, by omega⟩
            have hP := (HPf.out T (by omega) (by omega)).2
            have hbq : Below w5.heap.size w5 wq := hb.trans (hq.mono hb.size)
            have c1 : wq.cell? ⟨w4.heap.size, 0, none⟩ = some (.slice (some ⟨bk bl V, 0, none⟩) H (ck bl V)) := (hbq.cell (p := ⟨w4.heap.size, 0, none⟩) (by simp only; omega)).trans HX5.out
            have c2 := (HT5.out.below hbq).cell hVb (t := T) (by omega)
            refine (pOf1_any w4.heap.size (bk bl V) H (ck bl V) T (tat (pfF g Q) V T) wq c1 (by omega) c2).mono ?_
            rintro e w' ⟨rfl, hbe⟩
            refine ⟨⟨tat (pfF g Q) V T, ?_, fun y hy => ?_⟩, hbe⟩
            · rw [hP]
              by_cases c : tat (pfF g Q) V T = 1099511627776
              · rw [if_neg (fun h => h c), c]; rfl
              · rw [if_pos c]
                have : (tat (pfF g Q) V T != 1099511627776) = true := by simpa using c
                rw [this]; rfl
            · rw [hP] at hy
              split at hy
              · exact Option.some.inj hy
              · cases hy
          have hBd := build_in 36 #[.pointer (some ⟨w4.heap.size, 0, none⟩)] (profF g V Q) (fun args w => Try.call36 args w) wr wr (Below.refl _ _) A hp ao ca hz (by omega)
          have HOk : Hid (∀ n r, MapIs A (profF g V Q) n r → n = 0 ∧ OfIs g (V : Int) (Q : Int) 0 r) := by
            intro n r hM
            rw [hA] at hM
            obtain ⟨h0, h2, h3⟩ := mapIs_ok hM HTrn.out HVal.out (fun x hx => by rw [mem_intsL] at hx; unfold nearB; omega) (fun x hx => hx) (by rw [intsL_len]; omega)
            exact ⟨h0, HMk.out r h3 h2.canon (h2.chk (by rw [intsL_len]; omega))⟩
          have HBR := hideg BR
          clear hown hz hp hA hb BR HPf HTrn HVal HMk HT5 HX5 hAl
          go_wp2_with fail
          refine hBd.mono ?_
          rintro e w6 ⟨n, r, v', hM, rfl, hown6, hb6⟩
          obtain ⟨rfl, hO⟩ := HOk.out n r hM
          have HO := hideg hO
          have HOw := hideg (owns_base2 hown6 HBR.out.bel.size)
          have HBF := hideg (HBR.out.below hb6).bel
          clear hBd hM hown6 hb6 hO HOk
          go_wp2
          (try simp only [Exit.inBlock, Exit.then]); refine bodyPost_ret (results_two_e rfl _ _ _) rfl ?_
          exact ⟨_, _, _, rfl, HO.out, HOw.out, HBF.out⟩

end Go.Proofs.Ytanbbkoleekmjag
