/-
  What lesser, sweep and between of the program answer.
-/
import Derived.Test.YtjlnokjaabcldahBase
import Derived.Deep.QuietTactic
import Derived.BigQuiet
import Derived.Shelf.Abstract
namespace Go.Proofs.Ytjlnokjaabcldah
open Go.RowKit

theorem ret_int' {k : IntKind} {a b : Int} (h : a = b) : Ending.returned (.int k a) = .returned (.int k b) := by rw [h]

/-- the lesser of two first numbers -/
def les : List Int → List Int → Int
  | [], [] => 1099511627776
  | x :: _, [] => x
  | [], y :: _ => y
  | x :: _, y :: _ => min x y

theorem zsAt_head {w : World} {ao : Option Addr} {x : Int} {l : List Int} (h : ZsAt w ao (x :: l)) : ∃ b off, ao = some ⟨b, off, none⟩ ∧ w.cell? ⟨b, off, none⟩ = some (.int .i64 x) := by
  rcases h with h | ⟨b, off, rfl, _, hc⟩
  · cases h
  · exact ⟨b, off, rfl, by simpa using hc 0 (by simp)⟩

set_option maxRecDepth 100000 in
set_option maxHeartbeats 1000000 in
theorem lesser_any (ao bo : Option Addr) (ca cb : Nat) (A B : List Int) (w : World) (hA : ZsAt w ao A) (hB : ZsAt w bo B) (nA : ∀ x ∈ A, nearB x) (nB : ∀ x ∈ B, nearB x) (lA : A.length ≤ 400) (lB : B.length ≤ 400) :
    Calls Try.prog 59 #[.slice ao A.length ca, .slice bo B.length cb] w fun e w' => e = .returned (.int .i64 (les A B)) ∧ w' = w := by
  match A, B with
  | [], [] =>
    go_enter Try.func59, Try.ntmps59
    go_wp2
    go_ret
    exact ⟨rfl, rfl⟩
  | x :: A, [] =>
    obtain ⟨b, off, rfl, c0⟩ := zsAt_head hA
    have hx : nearB x := nA x (by simp)
    unfold nearB at hx
    clear nA nB hA hB
    simp only [List.length_cons] at lA ⊢
    go_enter Try.func59, Try.ntmps59
    go_wp2
    go_ret
    exact ⟨ret_int' (by simp only [les]), rfl⟩
  | [], y :: B =>
    obtain ⟨b, off, rfl, c0⟩ := zsAt_head hB
    have hx : nearB y := nB y (by simp)
    unfold nearB at hx
    clear nA nB hA hB
    simp only [List.length_cons] at lB ⊢
    go_enter Try.func59, Try.ntmps59
    go_wp2
    all_goals go_ret
    all_goals exact ⟨ret_int' (by simp only [les]), rfl⟩
  | x :: A, y :: B =>
    obtain ⟨b, off, rfl, c0⟩ := zsAt_head hA
    obtain ⟨b', off', rfl, c1⟩ := zsAt_head hB
    have hx : nearB x := nA x (by simp)
    have hy : nearB y := nB y (by simp)
    unfold nearB at hx hy
    clear nA nB hA hB
    simp only [List.length_cons] at lA lB ⊢
    go_enter Try.func59, Try.ntmps59
    go_wp2
    all_goals go_ret
    all_goals exact ⟨ret_int' (by simp only [les]; omega), rfl⟩


theorem lesser_len (ao bo : Option Addr) (ca cb na nb : Nat) (A B : List Int) (t : Int) (w : World) (hA : ZsAt w ao A) (hB : ZsAt w bo B) (nA : ∀ x ∈ A, nearB x) (nB : ∀ x ∈ B, nearB x) (lA : A.length ≤ 400) (lB : B.length ≤ 400)
    (ea : A.length = na) (eb : B.length = nb) (ht : les A B = t) :
    Calls Try.prog 59 #[.slice ao na ca, .slice bo nb cb] w fun e w' => e = .returned (.int .i64 t) ∧ w' = w := by
  subst ea eb ht
  exact lesser_any ao bo ca cb A B w hA hB nA nB lA lB

theorem zsAt_drop {w : World} {b off k : Nat} {A : List Int} (h : ZsAt w (some ⟨b, off, none⟩) A) : ZsAt w (some ⟨b, off + k, none⟩) (A.drop k) := by
  rcases h with h | ⟨b', off', e', hlt, hcell⟩
  · subst h; exact .inl (by simp)
  · simp only [Option.some.injEq, Addr.mk.injEq] at e'
    obtain ⟨rfl, rfl, _⟩ := e'
    refine .inr ⟨b, off + k, rfl, hlt, fun j hj => ?_⟩
    simp only [List.length_drop] at hj
    have := hcell (k + j) (by omega)
    rw [Nat.add_assoc, this]
    simp [List.getD_eq_getElem?_getD, List.getElem?_drop]

theorem zsAt_past {w : World} {ao : Option Addr} {k : Nat} {A : List Int} (hc : A.length ≤ k) : ZsAt w ao (A.drop k) := .inl (List.drop_eq_nil_of_le hc)

theorem cells_one_new (w : World) (B : Nat) (t : TypeId) (x : Value) (hB : B = w.heap.size) : ∀ j u, [x][j]? = some u → (w.alloc (.cells #[x] t)).cell? ((⟨B, 0, none⟩ : Addr).add j) = some u := by
  subst hB
  intro j u hj
  match j, hj with
  | 0, hj => simp at hj; subst hj; simp [Addr.add]

set_option maxRecDepth 100000 in
set_option maxHeartbeats 4000000 in
theorem sweep_any (g : Nat) (want : Bool → Bool → Bool) (hw0 : want false false = false) (eg : ∀ args w, (callFunc g args).run Try.prog w = .ok (.enter g args) w)
    (hg : ∀ x y w, Calls Try.prog g #[.bool x, .bool y] w fun e w' => e = .returned (.bool (want x y)) ∧ w' = w)
    (ao bo : Option Addr) (A B : List Int) (w : World) (hA : ZsAt w ao A) (hB : ZsAt w bo B) (nA : ∀ x ∈ A, nearB x) (nB : ∀ x ∈ B, nearB x) (lA : A.length ≤ 400) (lB : B.length ≤ 400)
    (sA : A.Pairwise (· < ·)) (sB : B.Pairwise (· < ·)) :
    Calls Try.prog 47 #[.slice ao A.length A.length, .slice bo B.length B.length, .func (.func g) #[] #[]] w fun e w' => ∃ ao' cap' r, e = .returned (.slice ao' r.length cap') ∧ ZsAt w' ao' r ∧ Swp want A B A.length B.length r ∧ Below w.heap.size w w' := by
  obtain ⟨i0, hi, hz0, hz1, hz2⟩ := info_parts Try.infoInt
  have HA : Hid (A.Pairwise (· < ·)) := sA
  have HB : Hid (B.Pairwise (· < ·)) := sB
  have HW : Hid (want false false = false) := hw0
  clear sA sB hw0
  go_enter Try.func47, Try.ntmps47
  go_wp2
  go_loopw [7, 8, 9, 10] (fun v i j _ wr => ∃ (ki kj : Nat) (r : List Int), i = .int .i64 ki ∧ j = .int .i64 kj ∧ Swp want A B ki kj r ∧ wr.ownsRow w.heap.size 3 1 v r.length (r.map (Value.int .i64)) ∧ Below w.heap.size w wr) (fun _ i j _ _ => (A.length - (intOf i).toNat) + (B.length - (intOf j).toNat))
  case atStart => exact ⟨0, 0, [], rfl, rfl, swp_start HW.out A B, World.ownsRow_nil _ _ _ _, Below.refl _ _⟩
  case round =>
    obtain ⟨ki, kj, r, rfl, rfl, hS, hown, hb⟩ := hrel
    have hki := hS.hi
    have hkj := hS.hj
    have hrl := hS.len
    have HS : Hid (Swp want A B ki kj r) := hS
    obtain ⟨vo, vc, rfl, hzr⟩ := zsAt_of_owns hown
    have HZ : Hid (ZsAt wr vo r) := hzr
    have dA : ∀ x ∈ A.drop ki, nearB x := fun x hx => nA x (List.mem_of_mem_drop hx)
    have dB : ∀ x ∈ B.drop kj, nearB x := fun x hx => nB x (List.mem_of_mem_drop hx)
    have hownq : ∀ n, (wr.drewN n).ownsRow w.heap.size 3 1 (.slice vo r.length vc) r.length (r.map (Value.int .i64)) := fun _ => hown
    have hol := hown.lt
    have hsz := hb.size
    have HO : Hid (∀ (n : Nat) (o : Obj) (w1 : World), ((wr.drewN n).alloc o).grownBy w1 (Value.slice vo r.length vc).ownBlock → Below w.heap.size w w1) := fun n o w1 hgr => ((below_drewN hb n).alloc hsz o).grown hgr (by simp; omega) (fun j hj => (hol j hj).1)
    clear hS hzr hown hol
    by_cases h1 : ki < A.length
    · by_cases h2 : kj < B.length
      · rcases hA.below hb with h0 | ⟨b, off, rfl, hbw, hc⟩
        · subst h0; simp at h1
        rcases hB.below hb with h0 | ⟨b', off', rfl, hbw', hc'⟩
        · subst h0; simp at h2
        have c0 := hc ki h1
        have c1 := hc' kj h2
        have zA : ∀ n, ZsAt (wr.drewN n) (some ⟨b, off + ki, none⟩) (A.drop ki) := fun n => zsAt_drop (.inr ⟨b, off, rfl, hbw, hc⟩)
        have zB : ∀ n, ZsAt (wr.drewN n) (some ⟨b', off' + kj, none⟩) (B.drop kj) := fun n => zsAt_drop (.inr ⟨b', off', rfl, hbw', hc'⟩)
        clear hc hc'
        have hdA := List.drop_eq_getElem_cons h1
        have hdB := List.drop_eq_getElem_cons h2
        by_cases h3 : A[ki] < B[kj]
        · have HN : Hid (nearB A[ki]) := nA _ (List.getElem_mem h1)
          have hle : les (A.drop ki) (B.drop kj) = A[ki] := (by rw [hdA, hdB]; simp only [les]; omega)
          have hL := fun n => lesser_len _ _ (A.length - ki) (B.length - kj) (A.length - ki) (B.length - kj) _ _ A[ki] (wr.drewN n) (zA n) (zB n) dA dB (by simp; omega) (by simp; omega) (by simp) (by simp) hle
          have e2 : (B[kj] == A[ki]) = false := by simp; omega
          clear zA zB hdA hdB
          clear hle dA dB nA nB hA hB
          go_wp2
          go_quiet ((go_at_call 59; exact Calls.quiet_of_same (hL _)))
          clear hL
          go_wp2_with (first | (go_at_fn g; refine (hg _ _ _).mono ?_; rintro e w' ⟨rfl, rfl⟩) | (at_builtin; refine wpList_append_own _ rfl _ _ 58 rfl w.heap.size 3 i0 (.int .i64 0) 1 8 Try.underlying58 hi hz0 hz1 hz2 rfl (by decide) _ _ _ rfl ((hownq _).alloc _) ⟨wr.heap.size, 0, none⟩ 1 1 [.int .i64 A[ki]] rfl rfl (cells_one_new _ _ _ _ (by simp)) (by intro u hu; simp at hu; subst hu; rfl) (by unfold maxLen; omega) (by omega) (by simp; omega) ?_))
          · intro v' w1 hown' hgrow _
            have hsw : Swp want A B (ki + 1) kj (r ++ [A[ki]]) := swp_put HS.out HA.out HB.out HN.out (stp_yes h1 rfl) (stp_no HB.out h2 h3) (.inl (mem_drop_get h1)) (by omega) (by first | exact odd_cast_succ _ | rfl) (by first | exact odd_cast_succ _ | rfl) rfl (by assumption)
            have HS' : Hid (Swp want A B (ki + 1) kj (r ++ [A[ki]])) := hsw
            have hb' := HO.out _ _ _ hgrow
            have R : w1.ownsRow w.heap.size 3 1 v' (r ++ [A[ki]]).length ((r ++ [A[ki]]).map (Value.int .i64)) := by simpa using hown'
            clear hsw hown' hgrow hownq
            go_wp2
            go_roundw
            case rel => exact ⟨(ki + 1), kj, _, by go_num, by go_num, HS'.out, R, hb'⟩
            case measure => simp [intOf]; omega
          · have hsw : Swp want A B (ki + 1) kj r := swp_skip HS.out HA.out HB.out HN.out (stp_yes h1 rfl) (stp_no HB.out h2 h3) (.inl (mem_drop_get h1)) (by omega) (by first | exact odd_cast_succ _ | rfl) (by first | exact odd_cast_succ _ | rfl) rfl (by assumption)
            have hb' := below_drewN hb nq
            go_roundw
            case rel => exact ⟨(ki + 1), kj, _, by go_num, by go_num, hsw, hownq _, hb'⟩
            case measure => simp [intOf]; omega
        · by_cases h4 : B[kj] < A[ki]
          · have HN : Hid (nearB B[kj]) := nB _ (List.getElem_mem h2)
            have hle : les (A.drop ki) (B.drop kj) = B[kj] := (by rw [hdA, hdB]; simp only [les]; omega)
            have hL := fun n => lesser_len _ _ (A.length - ki) (B.length - kj) (A.length - ki) (B.length - kj) _ _ B[kj] (wr.drewN n) (zA n) (zB n) dA dB (by simp; omega) (by simp; omega) (by simp) (by simp) hle
            have e2 : (A[ki] == B[kj]) = false := by simp; omega
            clear zA zB hdA hdB
            clear hle dA dB nA nB hA hB
            go_wp2
            go_quiet ((go_at_call 59; exact Calls.quiet_of_same (hL _)))
            clear hL
            go_wp2_with (first | (go_at_fn g; refine (hg _ _ _).mono ?_; rintro e w' ⟨rfl, rfl⟩) | (at_builtin; refine wpList_append_own _ rfl _ _ 58 rfl w.heap.size 3 i0 (.int .i64 0) 1 8 Try.underlying58 hi hz0 hz1 hz2 rfl (by decide) _ _ _ rfl ((hownq _).alloc _) ⟨wr.heap.size, 0, none⟩ 1 1 [.int .i64 B[kj]] rfl rfl (cells_one_new _ _ _ _ (by simp)) (by intro u hu; simp at hu; subst hu; rfl) (by unfold maxLen; omega) (by omega) (by simp; omega) ?_))
            · intro v' w1 hown' hgrow _
              have hsw : Swp want A B ki (kj + 1) (r ++ [B[kj]]) := swp_put HS.out HA.out HB.out HN.out (stp_no HA.out h1 h4) (stp_yes h2 rfl) (.inr (mem_drop_get h2)) (by omega) (by first | exact odd_cast_succ _ | rfl) (by first | exact odd_cast_succ _ | rfl) rfl (by assumption)
              have HS' : Hid (Swp want A B ki (kj + 1) (r ++ [B[kj]])) := hsw
              have hb' := HO.out _ _ _ hgrow
              have R : w1.ownsRow w.heap.size 3 1 v' (r ++ [B[kj]]).length ((r ++ [B[kj]]).map (Value.int .i64)) := by simpa using hown'
              clear hsw hown' hgrow hownq
              go_wp2
              go_roundw
              case rel => exact ⟨ki, (kj + 1), _, by go_num, by go_num, HS'.out, R, hb'⟩
              case measure => simp [intOf]; omega
            · have hsw : Swp want A B ki (kj + 1) r := swp_skip HS.out HA.out HB.out HN.out (stp_no HA.out h1 h4) (stp_yes h2 rfl) (.inr (mem_drop_get h2)) (by omega) (by first | exact odd_cast_succ _ | rfl) (by first | exact odd_cast_succ _ | rfl) rfl (by assumption)
              have hb' := below_drewN hb nq
              go_roundw
              case rel => exact ⟨ki, (kj + 1), _, by go_num, by go_num, hsw, hownq _, hb'⟩
              case measure => simp [intOf]; omega
          · have h5 : B[kj] = A[ki] := by omega
            have HN : Hid (nearB A[ki]) := nA _ (List.getElem_mem h1)
            have H5 : Hid (B[kj] = A[ki]) := h5
            have hle : les (A.drop ki) (B.drop kj) = A[ki] := (by rw [hdA, hdB]; simp only [les]; omega)
            have hL := fun n => lesser_len _ _ (A.length - ki) (B.length - kj) (A.length - ki) (B.length - kj) _ _ A[ki] (wr.drewN n) (zA n) (zB n) dA dB (by simp; omega) (by simp; omega) (by simp) (by simp) hle
            have e2 : (B[kj] == A[ki]) = true := by simp; omega
            clear zA zB hdA hdB h5
            clear hle dA dB nA nB hA hB
            go_wp2
            go_quiet ((go_at_call 59; exact Calls.quiet_of_same (hL _)))
            clear hL
            go_wp2_with (first | (go_at_fn g; refine (hg _ _ _).mono ?_; rintro e w' ⟨rfl, rfl⟩) | (at_builtin; refine wpList_append_own _ rfl _ _ 58 rfl w.heap.size 3 i0 (.int .i64 0) 1 8 Try.underlying58 hi hz0 hz1 hz2 rfl (by decide) _ _ _ rfl ((hownq _).alloc _) ⟨wr.heap.size, 0, none⟩ 1 1 [.int .i64 A[ki]] rfl rfl (cells_one_new _ _ _ _ (by simp)) (by intro u hu; simp at hu; subst hu; rfl) (by unfold maxLen; omega) (by omega) (by simp; omega) ?_))
            · intro v' w1 hown' hgrow _
              have hsw : Swp want A B (ki + 1) (kj + 1) (r ++ [A[ki]]) := swp_put HS.out HA.out HB.out HN.out (stp_yes h1 rfl) (stp_yes h2 H5.out) (.inl (mem_drop_get h1)) (by omega) (by first | exact odd_cast_succ _ | rfl) (by first | exact odd_cast_succ _ | rfl) rfl (by assumption)
              have HS' : Hid (Swp want A B (ki + 1) (kj + 1) (r ++ [A[ki]])) := hsw
              have hb' := HO.out _ _ _ hgrow
              have R : w1.ownsRow w.heap.size 3 1 v' (r ++ [A[ki]]).length ((r ++ [A[ki]]).map (Value.int .i64)) := by simpa using hown'
              clear hsw hown' hgrow hownq
              go_wp2
              go_roundw
              case rel => exact ⟨(ki + 1), (kj + 1), _, by go_num, by go_num, HS'.out, R, hb'⟩
              case measure => simp [intOf]; omega
            · have hsw : Swp want A B (ki + 1) (kj + 1) r := swp_skip HS.out HA.out HB.out HN.out (stp_yes h1 rfl) (stp_yes h2 H5.out) (.inl (mem_drop_get h1)) (by omega) (by first | exact odd_cast_succ _ | rfl) (by first | exact odd_cast_succ _ | rfl) rfl (by assumption)
              have hb' := below_drewN hb nq
              go_roundw
              case rel => exact ⟨(ki + 1), (kj + 1), _, by go_num, by go_num, hsw, hownq _, hb'⟩
              case measure => simp [intOf]; omega
      · rcases hA.below hb with h0 | ⟨b, off, rfl, hbw, hc⟩
        · subst h0; simp at h1
        have c0 := hc ki h1
        have zA : ∀ n, ZsAt (wr.drewN n) (some ⟨b, off + ki, none⟩) (A.drop ki) := fun n => zsAt_drop (.inr ⟨b, off, rfl, hbw, hc⟩)
        clear hc
        have hdA := List.drop_eq_getElem_cons h1
        obtain rfl : kj = B.length := by omega
        have hdB : B.drop B.length = [] := List.drop_eq_nil_of_le (Nat.le_refl _)
        have h2' : B.length ≤ B.length := Nat.le_refl _
        have HN : Hid (nearB A[ki]) := nA _ (List.getElem_mem h1)
        have hle : les (A.drop ki) (B.drop B.length) = A[ki] := (by rw [hdA, hdB]; simp only [les])
        have hL := fun n bx na nb ca cb (ea : A.length - ki = na) (eb : 0 = nb) => lesser_len _ bx ca cb na nb _ _ A[ki] (wr.drewN n) (zA n) (zsAt_past h2') dA dB (by rw [List.length_drop]; omega) (by rw [List.length_drop]; omega) (by rw [List.length_drop]; exact ea) (by rw [hdB]; exact eb) hle
        clear zA hdA hdB
        clear hle dA dB nA nB hA hB
        go_wp2
        go_quiet ((go_at_call 59; exact Calls.quiet_of_same (hL _ _ _ _ _ _ (by omega) (by omega))))
        clear hL
        go_wp2_with (first | (go_at_fn g; refine (hg _ _ _).mono ?_; rintro e w' ⟨rfl, rfl⟩) | (at_builtin; refine wpList_append_own _ rfl _ _ 58 rfl w.heap.size 3 i0 (.int .i64 0) 1 8 Try.underlying58 hi hz0 hz1 hz2 rfl (by decide) _ _ _ rfl ((hownq _).alloc _) ⟨wr.heap.size, 0, none⟩ 1 1 [.int .i64 A[ki]] rfl rfl (cells_one_new _ _ _ _ (by simp)) (by intro u hu; simp at hu; subst hu; rfl) (by unfold maxLen; omega) (by omega) (by simp; omega) ?_))
        · intro v' w1 hown' hgrow _
          have hsw : Swp want A B (ki + 1) B.length (r ++ [A[ki]]) := swp_put HS.out HA.out HB.out HN.out (stp_yes h1 rfl) (stp_past h2') (.inl (mem_drop_get h1)) (by omega) (by first | exact odd_cast_succ _ | rfl) (by first | exact odd_cast_succ _ | rfl) rfl (by assumption)
          have HS' : Hid (Swp want A B (ki + 1) B.length (r ++ [A[ki]])) := hsw
          have hb' := HO.out _ _ _ hgrow
          have R : w1.ownsRow w.heap.size 3 1 v' (r ++ [A[ki]]).length ((r ++ [A[ki]]).map (Value.int .i64)) := by simpa using hown'
          clear hsw hown' hgrow hownq
          go_wp2
          go_roundw
          case rel => exact ⟨(ki + 1), B.length, _, by go_num, by go_num, HS'.out, R, hb'⟩
          case measure => simp [intOf]; omega
        · have hsw : Swp want A B (ki + 1) B.length r := swp_skip HS.out HA.out HB.out HN.out (stp_yes h1 rfl) (stp_past h2') (.inl (mem_drop_get h1)) (by omega) (by first | exact odd_cast_succ _ | rfl) (by first | exact odd_cast_succ _ | rfl) rfl (by assumption)
          have hb' := below_drewN hb nq
          go_roundw
          case rel => exact ⟨(ki + 1), B.length, _, by go_num, by go_num, hsw, hownq _, hb'⟩
          case measure => simp [intOf]; omega
    · by_cases h2 : kj < B.length
      · rcases hB.below hb with h0 | ⟨b', off', rfl, hbw', hc'⟩
        · subst h0; simp at h2
        have c1 := hc' kj h2
        have zB : ∀ n, ZsAt (wr.drewN n) (some ⟨b', off' + kj, none⟩) (B.drop kj) := fun n => zsAt_drop (.inr ⟨b', off', rfl, hbw', hc'⟩)
        clear hc'
        have hdB := List.drop_eq_getElem_cons h2
        obtain rfl : ki = A.length := by omega
        have hdA : A.drop A.length = [] := List.drop_eq_nil_of_le (Nat.le_refl _)
        have h1' : A.length ≤ A.length := Nat.le_refl _
        have HN : Hid (nearB B[kj]) := nB _ (List.getElem_mem h2)
        have hle : les (A.drop A.length) (B.drop kj) = B[kj] := (by rw [hdA, hdB]; simp only [les])
        have hL := fun n ax na nb ca cb (ea : 0 = na) (eb : B.length - kj = nb) => lesser_len ax _ ca cb na nb _ _ B[kj] (wr.drewN n) (zsAt_past h1') (zB n) dA dB (by rw [List.length_drop]; omega) (by rw [List.length_drop]; omega) (by rw [hdA]; exact ea) (by rw [List.length_drop]; exact eb) hle
        clear zB hdA hdB
        clear hle dA dB nA nB hA hB
        go_wp2
        go_quiet ((go_at_call 59; exact Calls.quiet_of_same (hL _ _ _ _ _ _ (by omega) (by omega))))
        clear hL
        go_wp2_with (first | (go_at_fn g; refine (hg _ _ _).mono ?_; rintro e w' ⟨rfl, rfl⟩) | (at_builtin; refine wpList_append_own _ rfl _ _ 58 rfl w.heap.size 3 i0 (.int .i64 0) 1 8 Try.underlying58 hi hz0 hz1 hz2 rfl (by decide) _ _ _ rfl ((hownq _).alloc _) ⟨wr.heap.size, 0, none⟩ 1 1 [.int .i64 B[kj]] rfl rfl (cells_one_new _ _ _ _ (by simp)) (by intro u hu; simp at hu; subst hu; rfl) (by unfold maxLen; omega) (by omega) (by simp; omega) ?_))
        · intro v' w1 hown' hgrow _
          have hsw : Swp want A B A.length (kj + 1) (r ++ [B[kj]]) := swp_put HS.out HA.out HB.out HN.out (stp_past h1') (stp_yes h2 rfl) (.inr (mem_drop_get h2)) (by omega) (by first | exact odd_cast_succ _ | rfl) (by first | exact odd_cast_succ _ | rfl) rfl (by assumption)
          have HS' : Hid (Swp want A B A.length (kj + 1) (r ++ [B[kj]])) := hsw
          have hb' := HO.out _ _ _ hgrow
          have R : w1.ownsRow w.heap.size 3 1 v' (r ++ [B[kj]]).length ((r ++ [B[kj]]).map (Value.int .i64)) := by simpa using hown'
          clear hsw hown' hgrow hownq
          go_wp2
          go_roundw
          case rel => exact ⟨A.length, (kj + 1), _, by go_num, by go_num, HS'.out, R, hb'⟩
          case measure => simp [intOf]; omega
        · have hsw : Swp want A B A.length (kj + 1) r := swp_skip HS.out HA.out HB.out HN.out (stp_past h1') (stp_yes h2 rfl) (.inr (mem_drop_get h2)) (by omega) (by first | exact odd_cast_succ _ | rfl) (by first | exact odd_cast_succ _ | rfl) rfl (by assumption)
          have hb' := below_drewN hb nq
          go_roundw
          case rel => exact ⟨A.length, (kj + 1), _, by go_num, by go_num, hsw, hownq _, hb'⟩
          case measure => simp [intOf]; omega
      · have ei : ki = A.length := by omega
        have ej : kj = B.length := by omega
        have HS' : Hid (Swp want A B A.length B.length r) := by rw [← ei, ← ej]; exact HS
        clear ei ej hA hB dA dB nA nB hownq
        go_wp2
        go_ret
        exact ⟨_, _, _, rfl, HZ.out, HS'.out, hb⟩

end Go.Proofs.Ytjlnokjaabcldah
