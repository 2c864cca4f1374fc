/-
  What bounds of the reference answers: all numbers, rising, each once.
-/
import Derived.Test.YtanbbkoleekmjacSortI
namespace Go.Proofs.Ytanbbkoleekmjac
open Go.RowKit

set_option maxRecDepth 100000 in
set_option maxHeartbeats 2000000 in
theorem rbounds_empty (ao : Option Addr) (ca : Nat) (w : World) (hca : ao = none → ca = 0) :
    Calls Try.prog 74 #[.slice ao 0 ca] w fun e w' => e = .returned (.slice none 0 0) ∧ Below w.heap.size w w' := by
  obtain ⟨i0, hi, hz0, hz1, hz2⟩ := info_parts Try.infoInt
  have hcon := fun w => Any.slices_Sort_int_none Try.sortInt none 0 w
  change ∀ w, Calls Try.prog 81 _ _ _ at hcon
  cases ao with
  | none =>
    have h0 := hca rfl
    subst h0
    clear hca
    go_enter Try.func74, Try.ntmps74
    go_wp2_with (first | (at_builtin; refine wpList_append_own_none rfl _ _ 28 rfl w.heap.size 3 i0 1 Try.underlying28 hi _ 0 [] rfl (World.ownsRow_nil _ _ _ _) rfl ?_) | (go_at_call 81; refine (hcon _).mono ?_; rintro e w' ⟨rfl, rfl⟩))
    refine wp_loop_rounds 1 ?_
    rw [rounds_succ]
    go_wp2
    go_ret
    exact ⟨rfl, Below.refl _ _⟩
  | some a =>
    clear hca
    go_enter Try.func74, Try.ntmps74
    go_wp2_with (at_builtin; refine wpList_append_own _ rfl _ _ 28 rfl w.heap.size 3 i0 (.int .i64 0) 1 8 Try.underlying28 hi hz0 hz1 hz2 rfl (by decide) _ 0 [] rfl (World.ownsRow_nil _ _ _ _) a 0 ca [] rfl rfl (by simp) (by simp) (by simp [maxLen]) (by simp) (Nat.le_refl _) ?_)
    intro v' w1 hown' hgrow hnil
    have hv : v' = .slice none 0 0 := by first | exact hnil | exact hnil.2 ⟨rfl, rfl⟩
    have hb1 : Below w.heap.size w w1 := (Below.refl _ _).grown hgrow (Nat.le_refl _) (fun k hk => by cases hk)
    rw [hv]
    clear hnil hown' hgrow hv
    go_wp2_with (go_at_call 81; refine (hcon _).mono ?_; rintro e w' ⟨rfl, rfl⟩)
    refine wp_loop_rounds 1 ?_
    rw [rounds_succ]
    go_wp2
    go_ret
    exact ⟨rfl, by assumption⟩

theorem set_map_int (X : List Int) (k : Nat) (v : Int) : (X.map (Value.int .i64)).set k (.int .i64 v) = (X.set k v).map (Value.int .i64) := by rw [List.map_set]

set_option maxRecDepth 100000 in
set_option maxHeartbeats 4000000 in
theorem rbounds_fr (b off ca : Nat) (A : List Int) (w : World) (hA : ZsAt w (some ⟨b, off, none⟩) A) (h0 : A ≠ []) (h8 : A.length ≤ 800) :
    Calls Try.prog 74 #[.slice (some ⟨b, off, none⟩) A.length ca] w fun e w' => ∃ ao' cap' S, e = .returned (.slice ao' S.length cap') ∧ Ordered A S ∧ ZsAt w' ao' S ∧ Below w.heap.size w w' ∧ ∀ b' o', ao' = some ⟨b', o', none⟩ → w.heap.size ≤ b' := by
  obtain ⟨i0, hi, hz0, hz1, hz2⟩ := info_parts Try.infoInt
  have hnews : Hid (∀ j u, (A.map (Value.int .i64))[j]? = some u → w.cell? ((⟨b, off, none⟩ : Addr).add j) = some u) := by
    intro j u hu
    rcases hA with h | ⟨b', off', e, _, hc⟩
    · exact absurd h h0
    · simp only [Option.some.injEq, Addr.mk.injEq] at e
      obtain ⟨rfl, rfl, _⟩ := e
      have hj : j < A.length := by
        have := (List.getElem?_eq_some_iff.1 hu).1
        simpa using this
      rw [Go.WideShapes.add_plain, hc j hj]
      rw [List.getElem?_map, List.getElem?_eq_getElem hj] at hu
      simp only [Option.map_some, Option.some.injEq] at hu
      rw [← hu, List.getD_eq_getElem?_getD, List.getElem?_eq_getElem hj]
      rfl
  clear hA
  go_enter Try.func74, Try.ntmps74
  go_wp2_with (at_builtin; refine wpList_append_own _ rfl _ _ 28 rfl w.heap.size 3 i0 (.int .i64 0) 1 8 Try.underlying28 hi hz0 hz1 hz2 rfl (by decide) _ 0 [] rfl (World.ownsRow_nil _ _ _ _) ⟨b, off, none⟩ A.length ca (A.map (Value.int .i64)) rfl (by simp) hnews.out (by intro u hu; rw [List.mem_map] at hu; obtain ⟨z, _, rfl⟩ := hu; rfl) (by unfold maxLen; omega) (by omega) (Nat.le_refl _) ?_)
  intro v' w1 hown' hgrow hnil
  have hb1 : Below w.heap.size w w1 := (Below.refl _ _).grown hgrow (Nat.le_refl _) (fun k hk => by cases hk)
  have hex : ∃ g cap, v' = .slice (some ⟨g, 0, none⟩) A.length cap := by
    rcases hown'.2 with ⟨_, h⟩ | ⟨g, cap, _, h, _⟩
    · exact absurd (List.eq_nil_of_length_eq_zero h) h0
    · exact ⟨g, cap, h⟩
  obtain ⟨g, vc, hv⟩ := hex
  rw [hv] at hown' ⊢
  have hsort := sortInts_any hown' (by omega)
  clear hnil hgrow hv hnews hown'
  go_wp2_with fail
  refine hsort.mono ?_
  rintro e w2 ⟨rfl, Z, hp, hZ, hown2, hg2⟩
  have hb2 : Below w.heap.size w w2 := hb1.grown hg2 hb1.size (fun k hk => by cases hk; exact (hown2.lt g rfl).1)
  have hlen := hp.length_eq
  have HP : Hid (Z.Perm A) := hp
  have HZ : Hid (Z.Pairwise (· ≤ ·)) := hZ
  have HL : Hid (Z.length = A.length) := hlen
  clear hp hZ hg2 hb1 hsort hlen
  go_wp2
  go_loopw [4, 5] (fun vk vi wr => ∃ (k i : Nat) (X : List Int), vk = .int .i64 k ∧ vi = .int .i64 i ∧ Dd Z i k X ∧ wr.ownsRow w.heap.size 3 1 (.slice (some ⟨g, 0, none⟩) A.length vc) A.length (X.map (Value.int .i64)) ∧ Below w.heap.size w wr) (fun _ vi _ => A.length - (intOf vi).toNat)
  case atStart => exact ⟨0, 0, Z, rfl, rfl, dd_start Z, hown2, hb2⟩
  case round =>
    obtain ⟨k, i, X, rfl, rfl, hD, hown, hb⟩ := hrel
    have HD : Hid (Dd Z i k X) := hD
    have hki := hD.hk
    have hin : i ≤ A.length := by rw [← HL.out]; exact hD.hi
    have hXl : Hid (X.length = A.length) := hD.len.trans HL.out
    have hgl := hown.lt g rfl
    have hsz := hb.size
    clear hD hown2 hb2
    by_cases hlt : i < A.length
    · have hltZ : i < Z.length := by rw [HL.out]; exact hlt
      have c0 : wr.cell? ⟨g, i, none⟩ = some (.int .i64 Z[i]) := by
        rw [hown.cellAt i (by omega), List.getElem?_map, HD.out.rest i (Nat.le_refl _), List.getElem?_eq_getElem hltZ]; rfl
      have fz := hown.frozenAt k
      have HST : Hid (∀ n, ((wr.drewN n).setCell ⟨g, k, none⟩ (.int .i64 Z[i])).ownsRow w.heap.size 3 1 (.slice (some ⟨g, 0, none⟩) A.length vc) A.length ((X.set k Z[i]).map (Value.int .i64)) ∧ Below w.heap.size w ((wr.drewN n).setCell ⟨g, k, none⟩ (.int .i64 Z[i]))) := by
        intro n
        have hq : (wr.drewN n).ownsRow w.heap.size 3 1 (.slice (some ⟨g, 0, none⟩) A.length vc) A.length (X.map (Value.int .i64)) := hown
        have hst := (hq.stored k (.int .i64 Z[i])).1
        rw [set_map_int] at hst
        exact ⟨hst, (below_drewN hb n).setCell hgl.1 _⟩
      have ck : wr.cell? ⟨g, k, none⟩ = some (.int .i64 (X.getD k 0)) := by
        have hkX : k < X.length := by rw [hXl.out]; omega
        rw [hown.cellAt k (by omega), List.getElem?_map, List.getElem?_eq_getElem hkX, List.getD_eq_getElem?_getD, List.getElem?_eq_getElem hkX]; rfl
      generalize X.getD k 0 = xk at ck
      by_cases hi0 : i = 0
      · subst hi0
        have hk0 : k = 0 := by omega
        subst hk0
        have HD' : Hid (Dd Z (0 + 1) (0 + 1) (X.set 0 Z[0])) := dd_put hltZ HD.out HZ.out (fun y h => absurd h (Nat.lt_irrefl _))
        clear ck
        go_wp2
        go_quiet (fail)
        go_wp2
        go_roundw
        case rel => exact ⟨0 + 1, 0 + 1, _, by go_num, by go_num, HD'.out, (HST.out _).1, (HST.out _).2⟩
        case measure => simp [intOf]; omega
      · obtain ⟨hk0, _⟩ := HD.out.last (by omega)
        obtain ⟨m, rfl⟩ : ∃ m, k = m + 1 := ⟨k - 1, by omega⟩
        have hmX : m < X.length := by rw [hXl.out]; omega
        have cm : wr.cell? ⟨g, m, none⟩ = some (.int .i64 X[m]) := by
          rw [hown.cellAt m (by omega), List.getElem?_map, List.getElem?_eq_getElem hmX]; rfl
        have HXm : Hid (X[m + 1 - 1]? = some X[m]) := by show _ = _; rw [Nat.add_sub_cancel, List.getElem?_eq_getElem hmX]
        have di : ((i : Int) == 0) = false := by simp; omega
        have dm1 : (0 : Int) ≤ (m : Int) := by omega
        have dm2 : (m : Int) < (A.length : Int) := by omega
        by_cases g1 : Z[i] = X[m]
        · have HD' : Hid (Dd Z (i + 1) (m + 1) X) := dd_same hltZ HD.out (by omega) HXm.out g1
          have d1 : (Z[i] != X[m]) = false := by simp [g1]
          have ho : ∀ n, (wr.drewN n).ownsRow w.heap.size 3 1 (.slice (some ⟨g, 0, none⟩) A.length vc) A.length (X.map (Value.int .i64)) := fun _ => hown
          clear g1 hown ck fz
          go_wp2
          go_quiet (fail)
          go_wp2
          go_roundw
          case rel => exact ⟨m + 1, i + 1, _, by go_num, by go_num, HD'.out, ho _, below_drewN hb _⟩
          case measure => simp [intOf]; omega
        · have HD' : Hid (Dd Z (i + 1) (m + 1 + 1) (X.set (m + 1) Z[i])) := dd_put hltZ HD.out HZ.out (fun y _ hy => by rw [HXm.out] at hy; cases hy; exact g1)
          have d1 : (Z[i] != X[m]) = true := by simp [g1]
          clear g1
          go_wp2
          go_quiet (fail)
          go_wp2
          go_roundw
          case rel => exact ⟨m + 1 + 1, i + 1, _, by go_num, by go_num, HD'.out, (HST.out _).1, (HST.out _).2⟩
          case measure => simp [intOf]; omega
    · have hil : i = A.length := by omega
      have HO : Hid (Ordered A (X.take k)) := ordered_of_dd HP.out (by have := HD.out; rw [hil, ← HL.out] at this; exact this)
      have HS : Hid (ZsAt wr (some ⟨g, 0, none⟩) (X.take k)) := by
        refine .inr ⟨g, 0, rfl, hgl.2, fun j hj => ?_⟩
        rw [List.length_take] at hj
        have hjX : j < X.length := by omega
        rw [Nat.zero_add, hown.cellAt j (by rw [hXl.out] at hj; omega), List.getElem?_map, List.getElem?_eq_getElem hjX, List.getD_eq_getElem?_getD, List.getElem?_take_of_lt (by omega), List.getElem?_eq_getElem hjX]
        rfl
      have HK : Hid (k = (X.take k).length) := by show _ = _; rw [List.length_take, hXl.out]; omega
      have hvc : A.length ≤ vc := by
        rcases hown.2 with ⟨h, _⟩ | ⟨_, _, _, h, _, _, h1, _⟩
        · cases h
        · cases h; exact h1
      have hkv : (k : Int) ≤ (vc : Int) := by omega
      clear hown
      go_wp2
      go_ret
      exact ⟨_, _, _, ret_slice HK.out rfl, HO.out, HS.out, hb, fun b' o' h => by cases h; exact hgl.1⟩
theorem rbounds_any (b off ca : Nat) (A : List Int) (w : World) (hA : ZsAt w (some ⟨b, off, none⟩) A) (h0 : A ≠ []) (h8 : A.length ≤ 800) :
    Calls Try.prog 74 #[.slice (some ⟨b, off, none⟩) A.length ca] w fun e w' => ∃ ao' cap' S, e = .returned (.slice ao' S.length cap') ∧ Ordered A S ∧ ZsAt w' ao' S ∧ Below w.heap.size w w' :=
  (rbounds_fr b off ca A w hA h0 h8).mono fun _ _ ⟨a, c, S, h1, h2, h3, h4, _⟩ => ⟨a, c, S, h1, h2, h3, h4⟩

/-- bounds of numbers in memory of the call's own -/
theorem rbounds_own {w : World} {base e : Nat} {v : Value} {A : List Int} (hown : w.ownsRow base e 1 v A.length (A.map (Value.int .i64))) (h8 : A.length ≤ 800) :
    ∃ ao ca, v = .slice ao A.length ca ∧ Calls Try.prog 74 #[.slice ao A.length ca] w fun e w' => ∃ ao' cap' S, e = .returned (.slice ao' S.length cap') ∧ Ordered A S ∧ ZsAt w' ao' S ∧ Below w.heap.size w w' := by
  obtain ⟨ao, ca, hv, hz⟩ := zsAt_of_owns hown
  refine ⟨ao, ca, hv, ?_⟩
  by_cases h0 : A = []
  · subst h0
    have hca : ao = none → ca = 0 := by
      intro h
      subst h
      rcases hown.2 with ⟨h1, _⟩ | ⟨g, cap, cur, h1, _⟩
      · rw [hv] at h1; cases h1; rfl
      · rw [hv] at h1; cases h1
    refine (rbounds_empty ao ca w hca).mono ?_
    rintro e w' ⟨rfl, hb⟩
    exact ⟨none, 0, [], rfl, ⟨List.Pairwise.nil, fun x => Iff.rfl, Nat.le_refl _⟩, .inl rfl, hb⟩
  · rcases hz with h | ⟨b, off, rfl, hb, hc⟩
    · exact absurd h h0
    · exact rbounds_any b off ca A w (.inr ⟨b, off, rfl, hb, hc⟩) h0 h8

/-- bounds of numbers in memory of the call's own -/
theorem rbounds_own_fr {w : World} {base e : Nat} {v : Value} {A : List Int} (hown : w.ownsRow base e 1 v A.length (A.map (Value.int .i64))) (h8 : A.length ≤ 800) :
    ∃ ao ca, v = .slice ao A.length ca ∧ Calls Try.prog 74 #[.slice ao A.length ca] w fun e w' => ∃ ao' cap' S, e = .returned (.slice ao' S.length cap') ∧ Ordered A S ∧ ZsAt w' ao' S ∧ Below w.heap.size w w' ∧ ∀ b' o', ao' = some ⟨b', o', none⟩ → w.heap.size ≤ b' := by
  obtain ⟨ao, ca, hv, hz⟩ := zsAt_of_owns hown
  refine ⟨ao, ca, hv, ?_⟩
  by_cases h0 : A = []
  · subst h0
    have hca : ao = none → ca = 0 := by
      intro h
      subst h
      rcases hown.2 with ⟨h1, _⟩ | ⟨g, cap, cur, h1, _⟩
      · rw [hv] at h1; cases h1; rfl
      · rw [hv] at h1; cases h1
    refine (rbounds_empty ao ca w hca).mono ?_
    rintro e w' ⟨rfl, hb⟩
    exact ⟨none, 0, [], rfl, ⟨List.Pairwise.nil, fun x => Iff.rfl, Nat.le_refl _⟩, .inl rfl, hb, fun b' o' h => by cases h⟩
  · rcases hz with h | ⟨b, off, rfl, hb, hc⟩
    · exact absurd h h0
    · exact rbounds_fr b off ca A w (.inr ⟨b, off, rfl, hb, hc⟩) h0 h8

end Go.Proofs.Ytanbbkoleekmjac
