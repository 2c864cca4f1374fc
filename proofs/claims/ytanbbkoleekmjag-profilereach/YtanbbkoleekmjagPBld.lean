/-
  What build of the program's maps answers: the map of what is told at the times of a list.
-/
import Derived.Test.YtanbbkoleekmjagPExt
import Derived.Test.YtanbbkoleekmjagPFit
import Derived.Test.YtanbbkoleekmjagPSp
import Derived.Shelf.Abstract
namespace Go.Proofs.Ytanbbkoleekmjag
open Go.RowKit

/-- one stretch more -/
theorem tl_ext {S : List Int} {f : Int → Option Int} {i : Nat} {y : Int} {out : List (Int × Int × Int)} (hi : i + 1 < S.length) (hS : S.Pairwise (· < ·)) (T : Tl S f i out) (hp : f S[i] = some y) : Tl S f (i + 1) (ext out (S[i], S[i + 1], y)) := by
  rcases List.eq_nil_or_concat out with h0 | ⟨o, q, h0⟩
  · subst h0
    exact tl_put hi hS T hp (fun q h => by simp at h)
  · rw [List.concat_eq_append] at h0
    subst h0
    have hle := tl_last_le hi hS T (q := q) (by simp)
    cases hf : folB q (S[i], S[i + 1], y) with
    | true =>
      rw [ext_yes hf]
      exact tl_put hi hS T hp (fun r h => by simp at h; subst h; exact (folB_iff _ _).1 hf)
    | false =>
      rw [ext_no hf]
      have hn : ¬ Fol q (S[i], S[i + 1], y) := by rw [← folB_iff, hf]; decide
      unfold Fol at hn
      simp only [not_or, not_and, Decidable.not_not] at hn
      have h1 : q.2.1 = S[i] := by omega
      exact tl_more hi hS T hp h1 (hn.2 h1)

theorem ownsRow_base {w : World} {base base' e size : Nat} {v : Value} {n : Nat} {xs : List Value} (h : w.ownsRow base e size v n xs) (hb : base' ≤ base) : w.ownsRow base' e size v n xs :=
  ⟨h.1, h.2.imp id (fun ⟨g, c, cur, h1, h2, h3⟩ => ⟨g, c, cur, h1, Nat.le_trans hb h2, h3⟩)⟩

set_option maxRecDepth 100000 in
set_option maxHeartbeats 4000000 in
theorem build_in (g : Nat) (caps : Array Value) (f : Int → Option Int) (eg : ∀ args w, (callFunc g args).run Try.prog w = .ok (.enter g args) w) (W1 w : World) (hW : Below W1.heap.size W1 w) (A : List Int)
    (hp : ∀ t, t ∈ A → (∃ u ∈ A, t < u) → ∀ wq, Below W1.heap.size W1 wq → Calls Try.prog g (#[.int .i64 t] ++ caps) wq fun e w' => (∃ x, e = .returned (.tuple #[.int .i64 x, .bool (f t).isSome]) ∧ ∀ y, f t = some y → x = y) ∧ Below wq.heap.size wq w')
    (ao : Option Addr) (ca : Nat) (hz : ZsAt w ao A) (h8 : A.length ≤ 800) :
    Calls Try.prog 35 #[.slice ao A.length ca, .func (.func g) #[] caps] w fun e w' => ∃ n r v', MapIs A f n r ∧ e = .returned (.tuple #[v', .int .i64 n]) ∧ w'.ownsRow W1.heap.size 39 3 v' r.length (enc3 r) ∧ Below W1.heap.size W1 w' := by
  have HP : Hid (∀ t, t ∈ A → (∃ u ∈ A, t < u) → ∀ wq, Below W1.heap.size W1 wq → Calls Try.prog g (#[.int .i64 t] ++ caps) wq fun e w' => (∃ x, e = .returned (.tuple #[.int .i64 x, .bool (f t).isSome]) ∧ ∀ y, f t = some y → x = y) ∧ Below wq.heap.size wq w') := hp
  have hsp := spans_any ao ca A w hz h8
  clear hp hz
  go_enter Try.func35, Try.ntmps35
  go_wp2_with fail
  refine hsp.mono ?_
  rintro e w2 ⟨S, v0, rfl, hO, hown0, hb0⟩
  have HO : Hid (Ordered A S) := hO
  have hSl : S.length ≤ 800 := Nat.le_trans hO.len h8
  have hb2 : Below W1.heap.size W1 w2 := ptw hW hb0
  obtain ⟨N, hN⟩ : ∃ N, N = S.length - 1 := ⟨_, rfl⟩
  rw [← hN] at hown0
  have HN : Hid (N = S.length - 1) := hN
  have hN8 : N ≤ 800 := by omega
  have hown1 : w2.ownsRow w.heap.size 55 2 v0 (spn S N).length (encs (spn S N)) := by rw [spn_length]; exact hown0
  obtain ⟨so, sc, hv0, hivs⟩ := ivAt_of_owns hown1
  rw [spn_length] at hv0
  subst hv0
  have HIV : Hid (IvAt w2 so (spn S N)) := hivs
  clear hO hsp hW hb0 hown0 hown1 hivs hN
  go_wp2_with fail
  go_loopw [6, 9, 10, 14] (fun v _ _ vi wr => ∃ (j : Nat) (out : List (Int × Int × Int)), vi = .int .i64 j ∧ j ≤ N ∧ Tl S f j out ∧ wr.ownsRow w2.heap.size 39 3 v out.length (enc3 out) ∧ Below w2.heap.size w2 wr) (fun _ _ _ vi _ => N - (intOf vi).toNat)
  case atStart => exact ⟨0, [], rfl, Nat.zero_le _, tl_start S f, World.ownsRow_nil _ _ _ _, Below.refl _ _⟩
  case round =>
    obtain ⟨j, out, rfl, hjN, hT, hown, hb⟩ := hrel
    have HT : Hid (Tl S f j out) := hT
    have hol := hT.len
    clear hT
    have hbb : Below W1.heap.size W1 wr := hb2.trans (hb.mono hb2.size)
    by_cases hlt : j < N
    · have hjS : j + 1 < S.length := by have := HN.out; omega
      rcases HIV.out.below hb with h0 | ⟨b, off, rfl, hbw, hc⟩
      · have := spn_length S N; rw [h0] at this; simp at this; omega
      have hcj := hc j (by rw [spn_length]; exact hlt)
      rw [spn_get S N j hlt hjS] at hcj
      obtain ⟨c0, c1⟩ := hcj
      simp only at c0 c1
      have hsz := hb.size
      have HB0 : Hid (∀ o, Below wr.heap.size wr (wr.alloc o)) := fun o => pal wr o
      have hcl := HP.out S[j] ((HO.out.mem _).1 (List.getElem_mem _)) ⟨S[j + 1], (HO.out.mem _).1 (List.getElem_mem hjS), List.pairwise_iff_getElem.1 HO.out.inc j (j + 1) (by omega) hjS (by omega)⟩ (wr.alloc (.cells #[.int .i64 S[j], .int .i64 S[j + 1]] 55)) (ptw hbb (pal _ _))
      have HOW : Hid (∀ W, Below wr.heap.size wr W → W.ownsRow w2.heap.size 39 3 u6 out.length (enc3 out) ∧ Below w2.heap.size w2 W) := fun W h => ⟨ownsRow_below hown h, hb.trans (h.mono hb.size)⟩
      clear hc hown hb HIV
      cases hfj : f S[j] with
      | none =>
        rw [hfj] at hcl
        simp only [Option.isSome_none] at hcl
        have HT' : Hid (Tl S f (j + 1) out) := tl_skip hjS HT.out hfj
        clear hfj
        go_wp2_with (go_at_fn g; refine hcl.mono ?_; rintro e w3 ⟨⟨x, rfl, _⟩, hb3⟩)
        have F := HOW.out w3 (ptw (HB0.out _) hb3)
        go_roundw
        case rel => exact ⟨j + 1, out, by go_num, by omega, HT'.out, F.1, F.2⟩
        case measure => simp [intOf]; omega
      | some y =>
        rw [hfj] at hcl
        simp only [Option.isSome_some] at hcl
        have HT' : Hid (Tl S f (j + 1) (ext out (S[j], S[j + 1], y))) := tl_ext hjS HO.out.inc HT.out hfj
        have HX : Hid (∀ W, Below wr.heap.size wr W → Calls Try.prog 58 #[u6, .agg #[.int .i64 S[j], .int .i64 S[j + 1], .int .i64 y]] W fun e w' => ∃ v', e = .returned v' ∧ w'.ownsRow w2.heap.size 39 3 v' (ext out (S[j], S[j + 1], y)).length (enc3 (ext out (S[j], S[j + 1], y))) ∧ Below w2.heap.size w2 w') := by
          intro W h
          obtain ⟨o1, o2⟩ := HOW.out W h
          refine (extend_any w2.heap.size u6 out (S[j], S[j + 1], y) W o1 o2.size (by omega)).mono ?_
          rintro e w' ⟨v', rfl, a1, a2⟩
          exact ⟨v', rfl, a1, o2.trans a2⟩
        clear hfj
        go_wp2_with fail
        go_at_fn g
        refine hcl.mono ?_
        rintro e w3 ⟨⟨x, rfl, hx⟩, hb3⟩
        have hxy := hx y rfl
        subst hxy
        have hb3' := ptw (HB0.out _) hb3
        have HX3 := HX.out w3 hb3'
        have d0 : w3.cell? ⟨wr.heap.size, 0, none⟩ = some (.int .i64 S[j]) := by rw [hb3.cell (p := ⟨wr.heap.size, 0, none⟩) (by simp)]; simp
        have d1 : w3.cell? ⟨wr.heap.size, 1, none⟩ = some (.int .i64 S[j + 1]) := by rw [hb3.cell (p := ⟨wr.heap.size, 1, none⟩) (by simp)]; simp
        clear hx hcl hb3 HOW
        go_wp2_with (go_at_call 58; refine HX3.mono ?_; rintro e w4 ⟨v4, rfl, hown4, hb4⟩)
        go_roundw
        case rel => exact ⟨j + 1, _, by go_num, by omega, HT'.out, hown4, hb4⟩
        case measure => simp [intOf]; omega
    · have hjn : j = N := by omega
      have hfit := fit_any w2.heap.size u6 out wr hown (by omega)
      have HM : Hid (∀ n r, FitIs out n r → MapIs A f n r) := by
        intro n r h
        have := HT.out
        rw [hjn, HN.out] at this
        exact ⟨S, out, HO.out, this, h⟩
      have hsz2 := hb2.size
      subst hjn
      clear hown HIV
      go_wp2_with fail
      refine hfit.mono ?_
      rintro e w5 ⟨n, r, v5, hF, rfl, hown5, hb5⟩
      have HF := HM.out n r hF
      have HF' : Hid (MapIs A f n r) := HF
      have hbF : Below W1.heap.size W1 w5 := ptw hbb hb5
      have R := ownsRow_base hown5 hsz2
      clear hF HF hown5 hfit
      go_wp2
      go_ret2
      exact ⟨n, r, v5, HF'.out, rfl, R, hbF⟩

theorem build_any (g : Nat) (caps : Array Value) (f : Int → Option Int) (eg : ∀ args w, (callFunc g args).run Try.prog w = .ok (.enter g args) w) (W1 w : World) (hW : Below W1.heap.size W1 w)
    (hp : ∀ t wq, Below W1.heap.size W1 wq → Calls Try.prog g (#[.int .i64 t] ++ caps) wq fun e w' => (∃ x, e = .returned (.tuple #[.int .i64 x, .bool (f t).isSome]) ∧ ∀ y, f t = some y → x = y) ∧ Below wq.heap.size wq w')
    (ao : Option Addr) (ca : Nat) (A : List Int) (hz : ZsAt w ao A) (h8 : A.length ≤ 800) :
    Calls Try.prog 35 #[.slice ao A.length ca, .func (.func g) #[] caps] w fun e w' => ∃ n r v', MapIs A f n r ∧ e = .returned (.tuple #[v', .int .i64 n]) ∧ w'.ownsRow W1.heap.size 39 3 v' r.length (enc3 r) ∧ Below W1.heap.size W1 w' :=
  build_in g caps f eg W1 w hW A (fun t _ _ => hp t) ao ca hz h8

theorem build_own (g : Nat) (caps : Array Value) (f : Int → Option Int) (eg : ∀ args w, (callFunc g args).run Try.prog w = .ok (.enter g args) w) (W1 w : World) (hW : Below W1.heap.size W1 w)
    (hp : ∀ t wq, Below W1.heap.size W1 wq → Calls Try.prog g (#[.int .i64 t] ++ caps) wq fun e w' => (∃ x, e = .returned (.tuple #[.int .i64 x, .bool (f t).isSome]) ∧ ∀ y, f t = some y → x = y) ∧ Below wq.heap.size wq w')
    (gb ca : Nat) (A : List Int) (hown : w.ownsRow W1.heap.size 3 1 (.slice (some ⟨gb, 0, none⟩) A.length ca) A.length (A.map (Value.int .i64))) (h8 : A.length ≤ 800) :
    Calls Try.prog 35 #[.slice (some ⟨gb, 0, none⟩) A.length ca, .func (.func g) #[] caps] w fun e w' => ∃ n r v', MapIs A f n r ∧ e = .returned (.tuple #[v', .int .i64 n]) ∧ w'.ownsRow W1.heap.size 39 3 v' r.length (enc3 r) ∧ Below W1.heap.size W1 w' := by
  obtain ⟨ao, cap, he, hz⟩ := zsAt_of_owns hown
  simp only [Value.slice.injEq, true_and] at he
  obtain ⟨rfl, rfl⟩ := he
  exact build_any g caps f eg W1 w hW hp _ _ A hz h8

end Go.Proofs.Ytanbbkoleekmjag
