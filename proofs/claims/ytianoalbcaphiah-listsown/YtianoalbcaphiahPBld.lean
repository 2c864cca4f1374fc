/-
  What build of the program's maps answers: the map of what is told at the times of a list.
-/
import Derived.Test.YtianoalbcaphiahPExt
import Derived.Test.YtianoalbcaphiahPFit
import Derived.Test.YtianoalbcaphiahSortI
import Derived.Test.YtianoalbcaphiahCpt
import Derived.Shelf.Slices.CompactI
import Derived.Shelf.Abstract
namespace Go.Proofs.Ytianoalbcaphiah
open Go.RowKit

/-- Compact, of a row of the call's own -/
theorem compact_any {w : World} {base e g cap n : Nat} {Z : List Int} (hn : Z.length = n) (h : w.ownsRow base e 1 (.slice (some ⟨g, 0, none⟩) n cap) n (Z.map (Value.int .i64))) (hlen : n < 4611686018427387904) :
    Calls Try.prog 56 #[.slice (some ⟨g, 0, none⟩) n cap] w fun en w' => en = .returned (.slice (some ⟨g, 0, none⟩) (Lib.compact Z).length cap) ∧ ZsAt w' (some ⟨g, 0, none⟩) (Lib.compact Z) ∧ w.grownBy w' (some g) := by
  subst hn
  rcases h.2 with ⟨h0, _⟩ | ⟨g', cap', cur, hv, hbase, hh, h1, h2, h3, h4⟩
  · cases h0
  simp only [Value.slice.injEq, Option.some.injEq, Addr.mk.injEq, and_true, true_and] at hv
  obtain ⟨rfl, rfl⟩ := hv
  have hcon := Any.slices_Compact_int Try.compInt g 0 cap Z w (holds_of_blockI hh (by rw [Nat.mul_one] at h4; exact h4)) (by omega) h1
  change Calls Try.prog 56 _ _ _ at hcon
  refine hcon.mono ?_
  rintro en w' ⟨rfl, q, rfl⟩
  have hle : (Lib.compact Z).length ≤ Z.length := compact_len Z
  have ho := ownsRow_sortedI (n := q) (os := #[]) (ss := Z) (ts := Lib.compact Z ++ List.replicate (Z.length - (Lib.compact Z).length) 0) (by simp; omega) hbase hh h1 h2 h3
  have hgr := grownBy_sortedI (w := w) (g := g) (n := q) (os := #[]) (Lib.compact Z ++ List.replicate (Z.length - (Lib.compact Z).length) 0).toArray
  rw [Sort.grow_empty] at ho hgr
  refine ⟨rfl, ?_, hgr⟩
  by_cases h0 : Lib.compact Z = []
  · exact .inl h0
  refine .inr ⟨g, 0, rfl, (ho.lt g rfl).2, fun j hj => ?_⟩
  rw [Nat.zero_add, ho.cellAt j (by omega), List.getElem?_map, List.getElem?_append_left hj, List.getElem?_eq_getElem hj, List.getD_eq_getElem?_getD, List.getElem?_eq_getElem hj]
  rfl

/-- one stretch more -/
theorem tl_ext {S : List Int} {f : Int → Option Int} {i : Nat} {y : Int} {out : List (Int × Int × Int)} (hi : i + 1 < S.length) (hS : S.Pairwise (· < ·)) (T : Tl S f i out) (hp : f S[i] = some y) : Tl S f (i + 1) (ext out (S[i], S[i + 1], y)) := by
  rcases List.eq_nil_or_concat out with h0 | ⟨o, q, h0⟩
  · subst h0
    exact tl_put hi hS T hp (fun q h => by simp at h)
  · rw [List.concat_eq_append] at h0
    subst h0
    have hle := tl_last_le hi hS T (q := q) (by simp)
    cases hf : folB q (S[i], S[i + 1], y) with
    | true =>
      rw [ext_yes hf]
      exact tl_put hi hS T hp (fun r h => by simp at h; subst h; exact (folB_iff _ _).1 hf)
    | false =>
      rw [ext_no hf]
      have hn : ¬ Fol q (S[i], S[i + 1], y) := by rw [← folB_iff, hf]; decide
      unfold Fol at hn
      simp only [not_or, not_and, Decidable.not_not] at hn
      have h1 : q.2.1 = S[i] := by omega
      exact tl_more hi hS T hp h1 (hn.2 h1)

theorem ownsRow_base {w : World} {base base' e size : Nat} {v : Value} {n : Nat} {xs : List Value} (h : w.ownsRow base e size v n xs) (hb : base' ≤ base) : w.ownsRow base' e size v n xs :=
  ⟨h.1, h.2.imp id (fun ⟨g, c, cur, h1, h2, h3⟩ => ⟨g, c, cur, h1, Nat.le_trans hb h2, h3⟩)⟩

set_option maxRecDepth 100000 in
set_option maxHeartbeats 4000000 in
theorem build_any (g : Nat) (caps : Array Value) (f : Int → Option Int) (eg : ∀ args w, (callFunc g args).run Try.prog w = .ok (.enter g args) w) (W1 w : World) (hW : Below W1.heap.size W1 w)
    (hp : ∀ t wq, Below W1.heap.size W1 wq → Calls Try.prog g (#[.int .i64 t] ++ caps) wq fun e w' => (∃ x, e = .returned (.tuple #[.int .i64 x, .bool (f t).isSome]) ∧ ∀ y, f t = some y → x = y) ∧ Below wq.heap.size wq w')
    (gb ca : Nat) (A : List Int) (hown : w.ownsRow W1.heap.size 3 1 (.slice (some ⟨gb, 0, none⟩) A.length ca) A.length (A.map (Value.int .i64))) (h8 : A.length ≤ 800) :
    Calls Try.prog 37 #[.slice (some ⟨gb, 0, none⟩) A.length ca, .func (.func g) #[] caps] w fun e w' => ∃ n r v', MapIs A f n r ∧ e = .returned (.tuple #[v', .int .i64 n]) ∧ w'.ownsRow W1.heap.size 25 3 v' r.length (enc3 r) ∧ Below W1.heap.size W1 w' := by
  have HP : Hid (∀ t wq, Below W1.heap.size W1 wq → Calls Try.prog g (#[.int .i64 t] ++ caps) wq fun e w' => (∃ x, e = .returned (.tuple #[.int .i64 x, .bool (f t).isSome]) ∧ ∀ y, f t = some y → x = y) ∧ Below wq.heap.size wq w') := hp
  have hgW := (hown.lt gb rfl).1
  have hsort := sortInts_any hown (by omega)
  clear hp hown
  go_enter Try.func37, Try.ntmps37
  go_wp2_with fail
  refine hsort.mono ?_
  rintro e w1 ⟨rfl, Z, hpZ, hZ, hown1, hg1⟩
  have hb1 : Below W1.heap.size W1 w1 := hW.grown hg1 hW.size (fun k hk => by cases hk; exact hgW)
  have hcomp := compact_any hpZ.length_eq hown1 (by omega)
  have HO : Hid (Ordered A (Lib.compact Z)) := compact_ordered hpZ hZ
  clear hpZ hZ hown1 hg1 hsort
  generalize Lib.compact Z = S at HO hcomp
  have hSl : S.length ≤ 800 := Nat.le_trans HO.out.len h8
  go_wp2_with fail
  refine hcomp.mono ?_
  rintro e w2 ⟨rfl, hz2, hg2⟩
  have hb2 : Below W1.heap.size W1 w2 := hb1.grown hg2 hb1.size (fun k hk => by cases hk; exact hgW)
  clear hg2 hb1 hcomp hW
  go_wp2_with fail
  go_loopw [6, 7, 8, 9] (fun v vi _ _ wr => ∃ (j : Nat) (out : List (Int × Int × Int)), vi = .int .i64 ((j : Int) + 1) ∧ (j = 0 ∨ j + 1 ≤ S.length) ∧ Tl S f j out ∧ wr.ownsRow w2.heap.size 25 3 v out.length (enc3 out) ∧ Below w2.heap.size w2 wr) (fun _ vi _ _ _ => S.length + 1 - (intOf vi).toNat)
  case atStart => exact ⟨0, [], rfl, .inl rfl, tl_start S f, World.ownsRow_nil _ _ _ _, Below.refl _ _⟩
  case round =>
    obtain ⟨j, out, rfl, hil, hT, hown, hb⟩ := hrel
    have HT : Hid (Tl S f j out) := hT
    have hol := hT.len
    have hj8 : j ≤ 800 := by omega
    clear hT
    have hbb : Below W1.heap.size W1 wr := hb2.trans (hb.mono hb2.size)
    by_cases hlt : j + 1 < S.length
    · rcases hz2 with h0 | ⟨b, off, e0, hbw, hc⟩
      · subst h0; simp at hlt
      simp only [Option.some.injEq, Addr.mk.injEq, and_true] at e0
      obtain ⟨rfl, rfl⟩ := e0
      have hcs : ∀ W, Below w2.heap.size w2 W → W.cell? ⟨gb, 0 + j, none⟩ = some (.int .i64 S[j]) ∧ W.cell? ⟨gb, 0 + (j + 1), none⟩ = some (.int .i64 S[j + 1]) := by
        intro W h
        refine ⟨?_, ?_⟩
        · rw [h.cell (p := ⟨gb, 0 + j, none⟩) hbw, hc j (by omega), List.getD_eq_getElem?_getD, List.getElem?_eq_getElem (by omega)]; rfl
        · rw [h.cell (p := ⟨gb, 0 + (j + 1), none⟩) hbw, hc (j + 1) (by omega), List.getD_eq_getElem?_getD, List.getElem?_eq_getElem (by omega)]; rfl
      simp only [Nat.zero_add] at hcs
      have HCS : Hid (∀ W, Below w2.heap.size w2 W → W.cell? ⟨gb, j, none⟩ = some (.int .i64 S[j]) ∧ W.cell? ⟨gb, j + 1, none⟩ = some (.int .i64 S[j + 1])) := hcs
      have c0 := (hcs wr hb).1
      have hsz := hb.size
      have hi1 : (j : Int) + 1 < (S.length : Int) := by omega
      have hi2 : (j : Int) < (S.length : Int) := by omega
      have hi3 : (0 : Int) ≤ (j : Int) := by omega
      have hi4 : (0 : Int) ≤ (j : Int) + 1 := by omega
      have hw1 : IntKind.i64.wrap ((j : Int) + 1 - 1) = (j : Int) := by rw [Int.add_sub_cancel]; exact wrap_small _ (by omega) (by omega)
      have hw2 : IntKind.i64.wrap (j : Int) = (j : Int) := wrap_small _ (by omega) (by omega)
      have hcl := HP.out S[j] wr hbb
      have HOW : Hid (∀ W, Below wr.heap.size wr W → W.ownsRow w2.heap.size 25 3 u6 out.length (enc3 out) ∧ Below w2.heap.size w2 W) := fun W h => ⟨ownsRow_below hown h, hb.trans (h.mono hb.size)⟩
      clear hc hcs hown hb
      cases hfj : f S[j] with
      | none =>
        rw [hfj] at hcl
        simp only [Option.isSome_none] at hcl
        have HT' : Hid (Tl S f (j + 1) out) := tl_skip hlt HT.out hfj
        clear hfj
        go_wp2_with (go_at_fn g; refine hcl.mono ?_; rintro e w3 ⟨⟨x, rfl, _⟩, hb3⟩)
        have F := HOW.out w3 hb3
        go_roundw
        case rel => exact ⟨j + 1, out, by go_num, .inr (by omega), HT'.out, F.1, F.2⟩
        case measure => simp [intOf]; omega
      | some y =>
        rw [hfj] at hcl
        simp only [Option.isSome_some] at hcl
        have HT' : Hid (Tl S f (j + 1) (ext out (S[j], S[j + 1], y))) := tl_ext hlt HO.out.inc HT.out hfj
        have HX : Hid (∀ W, Below wr.heap.size wr W → Calls Try.prog 57 #[u6, .agg #[.int .i64 S[j], .int .i64 S[j + 1], .int .i64 y]] W.drew fun e w' => ∃ v', e = .returned v' ∧ w'.ownsRow w2.heap.size 25 3 v' (ext out (S[j], S[j + 1], y)).length (enc3 (ext out (S[j], S[j + 1], y))) ∧ Below w2.heap.size w2 w') := by
          intro W h
          obtain ⟨o1, o2⟩ := HOW.out W h
          refine (extend_any w2.heap.size u6 out (S[j], S[j + 1], y) W.drew o1.drew o2.size (by omega)).mono ?_
          rintro e w' ⟨v', rfl, a1, a2⟩
          exact ⟨v', rfl, a1, (o2.drew).trans a2⟩
        clear hfj
        go_wp2_with (go_at_fn g; refine hcl.mono ?_; rintro e w3 ⟨⟨x, rfl, hx⟩, hb3⟩)
        have hxy := hx y rfl
        subst hxy
        have hb23 := (HOW.out w3 hb3).2
        obtain ⟨d0, d1⟩ := HCS.out w3 hb23
        have HX3 := HX.out w3 hb3
        have HX4 : Hid (Calls Try.prog 57 #[u6, .agg #[.int .i64 S[j], .int .i64 S[j + 1], .int .i64 x]] w3.drew fun e w' => ∃ v', e = .returned v' ∧ w'.ownsRow w2.heap.size 25 3 v' (ext out (S[j], S[j + 1], x)).length (enc3 (ext out (S[j], S[j + 1], x))) ∧ Below w2.heap.size w2 w') := HX3
        clear HX HX3 hx c0 hcl hb3 HOW
        go_region_held3 (fun w' => w'.cell? ⟨gb, j, none⟩ = some (.int .i64 S[j]) ∧ w'.cell? ⟨gb, j + 1, none⟩ = some (.int .i64 S[j + 1]))
          (first | go_keep | (refine ⟨?_, ?_⟩ <;> assumption))
          ((go_at_call 57; refine HX4.out.mono ?_; rintro e w4 ⟨v4, rfl, hown4, hb4⟩; obtain ⟨k0, k1⟩ := HCS.out w4 hb4))
        clear d0 d1 HX4
        go_wp2
        go_roundw
        case rel => exact ⟨j + 1, _, by go_num, .inr (by omega), HT'.out, hown4, hb4⟩
        case measure => simp [intOf]; omega
    · have hil' : j = S.length - 1 := by omega
      have hfit := fit_any w2.heap.size u6 out wr hown (by omega)
      have HM : Hid (∀ n r, FitIs out n r → MapIs A f n r) := by
        intro n r h
        have := HT.out
        rw [hil'] at this
        exact ⟨S, out, HO.out, this, h⟩
      have hi1 : ¬ ((j : Int) + 1 < (S.length : Int)) := by omega
      have hsz2 := hb2.size
      clear hown hil' hz2
      go_wp2_with fail
      refine hfit.mono ?_
      rintro e w5 ⟨n, r, v5, hF, rfl, hown5, hb5⟩
      have HF := HM.out n r hF
      have HF' : Hid (MapIs A f n r) := HF
      have hbF : Below W1.heap.size W1 w5 := ptw hbb hb5
      have R := ownsRow_base hown5 hsz2
      clear hF HF hown5 hfit
      go_wp2
      go_ret2
      exact ⟨n, r, v5, HF'.out, rfl, R, hbF⟩

end Go.Proofs.Ytianoalbcaphiah
