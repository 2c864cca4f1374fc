/-
  What Begun and Degrees of the reference tell.
-/
import Derived.Test.YtnopdnajlbaccabHeldB
import Derived.Test.YtnopdnajlbaccabRIn
namespace Go.Proofs.Ytnopdnajlbaccab
open Go.RowKit

/-- what vertices are told at first, by program -/
def begF (prog fr : Int) (v : Int) : Int := if prog = 3 then v else fromF fr v
theorem firstL_succ (al : List Bool) (f : Int → Int) (k : Nat) (h : k < al.length) : ((firstL al f).take (k + 1)).map (Value.int .i64) = ((firstL al f).take k).map (Value.int .i64) ++ [.int .i64 (if al[k] = true then f k else 1099511627776)] := by
  rw [firstL_take al f k h, List.map_append, List.getD_eq_getElem?_getD, List.getElem?_eq_getElem h]; rfl

set_option maxRecDepth 100000 in
set_option maxHeartbeats 4000000 in
theorem rBegun_any (ao bo : Option Addr) (ca m cb : Nat) (al : List Bool) (prog fr : Int) (w : World) (hA : BsAt w ao al) (h12 : al.length ≤ 12) :
    Calls Try.prog 16 #[.agg #[.slice ao al.length ca, .slice bo m cb], .int .i64 prog, .int .i64 fr] w fun e w' => ∃ v, e = .returned v ∧ w'.ownsRow w.heap.size 3 1 v al.length ((firstL al (begF prog fr)).map (Value.int .i64)) ∧ (al = [] → v = .slice none 0 0) ∧ Below w.heap.size w w' := by
  obtain ⟨i0, hi, hz0, hz1, hz2⟩ := info_parts Try.infoInt
  have HB := hidep (pal w)
  go_enter Try.func16, Try.ntmps16
  go_wp2
  go_loopw [7, 8, 9] (fun v i _ wr => ∃ k : Nat, k ≤ al.length ∧ i = .int .i64 k ∧ wr.ownsRow (w.heap.size + 1) 3 1 v k (((firstL al (begF prog fr)).take k).map (Value.int .i64)) ∧ (k = 0 → v = .slice none 0 0) ∧ Below (w.heap.size + 1) (w.alloc (.cells #[.slice ao al.length ca, .slice bo m cb] 25)) wr) (fun _ i _ _ => al.length - (intOf i).toNat)
  case atStart => exact ⟨0, Nat.zero_le _, rfl, World.ownsRow_nil _ _ _ _, fun _ => rfl, Below.refl _ _⟩
  case round =>
    obtain ⟨k, hk, rfl, hown, hnil, hb⟩ := hrel
    have hbw : Below w.heap.size w wr := (HB.out _).trans (hb.mono (by omega))
    have hz := hb.size
    simp only [World.size_alloc] at hz
    have hz0' : w.heap.size < wr.heap.size := by omega
    have q0 : wr.cell? ⟨w.heap.size, 0, none⟩ = some (.slice ao al.length ca) := by rw [hb.cell (p := ⟨w.heap.size, 0, none⟩) (by simp)]; simp
    by_cases hlt : k < al.length
    · rcases hA.below hbw with h0 | ⟨b, off, rfl, hbr, hc⟩
      · subst h0; simp at hlt
      have c0 := BsAt.at1 hlt hc
      have hki : (k : Int) < (al.length : Int) := by omega
      obtain ⟨x, hx⟩ : ∃ x, x = (if al[k] = true then begF prog fr k else 1099511627776) := ⟨_, rfl⟩
      have HE := hidep (firstL_succ al (begF prog fr) k hlt)
      rw [← hx] at HE
      generalize ((firstL al (begF prog fr)).take k).map (Value.int .i64) = xs at hown HE
      have HN : Hid (∀ v' w', w'.ownsRow (w.heap.size + 1) 3 1 v' (k + 1) (xs ++ [.int .i64 x]) → (wr.alloc (.cells #[.int .i64 x] 3)).grownBy w' u7.ownBlock →
          (w'.ownsRow (w.heap.size + 1) 3 1 v' (k + 1) (((firstL al (begF prog fr)).take (k + 1)).map (Value.int .i64)) ∧ Below (w.heap.size + 1) (w.alloc (.cells #[.slice (some ⟨b, off, none⟩) al.length ca, .slice bo m cb] 25)) w')) := by
        intro v' w' ho hg
        exact ⟨by rw [HE.out]; exact ho, (hb.alloc (by omega) _).grown hg (by simp; omega) (fun j hj => (hown.lt j hj).1)⟩
      clear hc hA hb hbw HE hnil
      cases ea : al[k] with
      | false =>
        rw [ea] at c0 hx
        simp only [Bool.false_eq_true, if_false] at hx
        subst hx
        clear ea
        go_wp2_with (at_builtin; refine wpList_append_own _ rfl _ _ 28 rfl (w.heap.size + 1) 3 i0 _ 1 8 Try.underlying28 hi hz0 hz1 hz2 rfl (by decide) _ k _ rfl (hown.alloc _) ⟨wr.heap.size, 0, none⟩ 1 1 [.int .i64 1099511627776] rfl rfl ?c1 ?c2 (by unfold maxLen; omega) (by omega) (by simp; omega) ?_)
        case c1 => exact World.news_of_block (cs := #[.int .i64 1099511627776]) (t := 3) (fr := (0, 0)) (heap_alloc_new wr _)
        case c2 => intro u hu; simp at hu; subst hu; rfl
        intro v1 w1 hown' hgrow hnil'
        have HR := hidep (HN.out _ _ hown' hgrow)
        clear hown hown' hgrow hnil'
        go_wp2
        go_roundw
        case rel => exact ⟨k + 1, by omega, by go_num, HR.out.1, fun h => by omega, HR.out.2⟩
        case measure => simp [intOf]; omega
      | true =>
        rw [ea] at c0 hx
        simp only [if_true] at hx
        clear ea
        by_cases hp3 : prog = 3
        · have hx2 : x = (k : Int) := by rw [hx]; unfold begF; rw [if_pos hp3]
          subst hx2
          have d3 : (prog == 3) = true := by simpa using hp3
          clear hx hp3
          go_wp2_with (at_builtin; refine wpList_append_own _ rfl _ _ 28 rfl (w.heap.size + 1) 3 i0 _ 1 8 Try.underlying28 hi hz0 hz1 hz2 rfl (by decide) _ k _ rfl (hown.alloc _) ⟨wr.heap.size, 0, none⟩ 1 1 [.int .i64 k] rfl rfl ?c1 ?c2 (by unfold maxLen; omega) (by omega) (by simp; omega) ?_)
          case c1 => exact World.news_of_block (cs := #[.int .i64 k]) (t := 3) (fr := (0, 0)) (heap_alloc_new wr _)
          case c2 => intro u hu; simp at hu; subst hu; rfl
          intro v1 w1 hown' hgrow hnil'
          have HR := hidep (HN.out _ _ hown' hgrow)
          clear hown hown' hgrow hnil'
          go_wp2
          go_roundw
          case rel => exact ⟨k + 1, by omega, by go_num, HR.out.1, fun h => by omega, HR.out.2⟩
          case measure => simp [intOf]; omega
        · have d3 : (prog == 3) = false := by simpa using hp3
          by_cases hpf : (k : Int) = fr
          · have hx2 : x = 0 := by rw [hx]; unfold begF fromF; rw [if_neg hp3, if_pos hpf]
            subst hx2
            have d4 : ((k : Int) == fr) = true := by simpa using hpf
            clear hx hp3 hpf
            go_wp2_with (at_builtin; refine wpList_append_own _ rfl _ _ 28 rfl (w.heap.size + 1) 3 i0 _ 1 8 Try.underlying28 hi hz0 hz1 hz2 rfl (by decide) _ k _ rfl (hown.alloc _) ⟨wr.heap.size, 0, none⟩ 1 1 [.int .i64 0] rfl rfl ?c1 ?c2 (by unfold maxLen; omega) (by omega) (by simp; omega) ?_)
            case c1 => exact World.news_of_block (cs := #[.int .i64 0]) (t := 3) (fr := (0, 0)) (heap_alloc_new wr _)
            case c2 => intro u hu; simp at hu; subst hu; rfl
            intro v1 w1 hown' hgrow hnil'
            have HR := hidep (HN.out _ _ hown' hgrow)
            clear hown hown' hgrow hnil'
            go_wp2
            go_roundw
            case rel => exact ⟨k + 1, by omega, by go_num, HR.out.1, fun h => by omega, HR.out.2⟩
            case measure => simp [intOf]; omega
          · have hx2 : x = 1099511627776 := by rw [hx]; unfold begF fromF; rw [if_neg hp3, if_neg hpf]
            subst hx2
            have d4 : ((k : Int) == fr) = false := by simpa using hpf
            clear hx hp3 hpf
            go_wp2_with (at_builtin; refine wpList_append_own _ rfl _ _ 28 rfl (w.heap.size + 1) 3 i0 _ 1 8 Try.underlying28 hi hz0 hz1 hz2 rfl (by decide) _ k _ rfl (hown.alloc _) ⟨wr.heap.size, 0, none⟩ 1 1 [.int .i64 1099511627776] rfl rfl ?c1 ?c2 (by unfold maxLen; omega) (by omega) (by simp; omega) ?_)
            case c1 => exact World.news_of_block (cs := #[.int .i64 1099511627776]) (t := 3) (fr := (0, 0)) (heap_alloc_new wr _)
            case c2 => intro u hu; simp at hu; subst hu; rfl
            intro v1 w1 hown' hgrow hnil'
            have HR := hidep (HN.out _ _ hown' hgrow)
            clear hown hown' hgrow hnil'
            go_wp2
            go_roundw
            case rel => exact ⟨k + 1, by omega, by go_num, HR.out.1, fun h => by omega, HR.out.2⟩
            case measure => simp [intOf]; omega
    · have hkl : k = al.length := by omega
      have HO : Hid (wr.ownsRow w.heap.size 3 1 u7 al.length ((firstL al (begF prog fr)).map (Value.int .i64))) := by
        have h1 := hown
        rw [hkl, List.take_of_length_le (by rw [firstL_length]; exact Nat.le_refl _)] at h1
        exact owns_base2 h1 (by omega)
      have HN : Hid (al = [] → u7 = .slice none 0 0) := fun h => hnil (by rw [hkl, h]; rfl)
      clear hown hnil
      go_wp2
      go_ret
      exact ⟨_, rfl, HO.out, HN.out, hbw⟩

theorem degF_succR (arcs : List Ac) (k : Nat) (hk : k < arcs.length) (v : Int) : degF (arcs.take (k + 1)) v = degF (arcs.take k) v + if arcs[k].1 = v then 1 else 0 := by
  unfold degF
  rw [List.take_succ_eq_append_getElem hk, List.countP_append]
  by_cases h : arcs[k].1 = v <;> simp [h]
theorem degF_boundsR (arcs : List Ac) (v : Int) : 0 ≤ degF arcs v ∧ degF arcs v ≤ arcs.length := by
  have : arcs.countP (fun a => decide (a.1 = v)) ≤ arcs.length := List.countP_le_length
  unfold degF; omega

set_option maxRecDepth 100000 in
set_option maxHeartbeats 4000000 in
theorem rDegrees_any (ao bo : Option Addr) (ca cb : Nat) (al : List Bool) (arcs : List Ac) (w : World) (hA : BsAt w ao al) (hR : PcAt w bo arcs) (h12 : al.length ≤ 12) (h30 : arcs.length ≤ 30) :
    Calls Try.prog 7 #[.agg #[.slice ao al.length ca, .slice bo arcs.length cb]] w fun e w' => ∃ v, e = .returned v ∧ w'.ownsRow w.heap.size 3 1 v al.length ((firstL al (degF arcs)).map (Value.int .i64)) ∧ Below w.heap.size w w' := by
  obtain ⟨i0, hi, hz0, hz1, hz2⟩ := info_parts Try.infoInt
  have HB := hidep (pal w)
  go_enter Try.func7, Try.ntmps7
  go_wp2
  go_loopw [3, 4, 5, 6] (fun v i _ _ wr => ∃ k : Nat, k ≤ al.length ∧ i = .int .i64 k ∧ wr.ownsRow (w.heap.size + 1) 3 1 v k (((firstL al (degF arcs)).take k).map (Value.int .i64)) ∧ Below (w.heap.size + 1) (w.alloc (.cells #[.slice ao al.length ca, .slice bo arcs.length cb] 25)) wr) (fun _ i _ _ _ => al.length - (intOf i).toNat)
  case atStart => exact ⟨0, Nat.zero_le _, rfl, World.ownsRow_nil _ _ _ _, Below.refl _ _⟩
  case round =>
    obtain ⟨k, hk, rfl, hown, hb⟩ := hrel
    have hbw : Below w.heap.size w wr := (HB.out _).trans (hb.mono (by omega))
    have hz := hb.size
    simp only [World.size_alloc] at hz
    have hz0' : w.heap.size < wr.heap.size := by omega
    have q0 : wr.cell? ⟨w.heap.size, 0, none⟩ = some (.slice ao al.length ca) := by rw [hb.cell (p := ⟨w.heap.size, 0, none⟩) (by simp)]; simp
    have q1 : wr.cell? ⟨w.heap.size, 1, none⟩ = some (.slice bo arcs.length cb) := by rw [hb.cell (p := ⟨w.heap.size, 1, none⟩) (by simp)]; simp
    by_cases hlt : k < al.length
    · have hR2 := hR.below hbw
      rcases hA.below hbw with h0 | ⟨b, off, rfl, hbr, hc⟩
      · subst h0; simp at hlt
      have c0 := BsAt.at1 hlt hc
      have hki : (k : Int) < (al.length : Int) := by omega
      have HE := hidep (firstL_succ al (degF arcs) k hlt)
      generalize ((firstL al (degF arcs)).take k).map (Value.int .i64) = xs at hown HE
      have HN : Hid (∀ x v' w', (if al[k] = true then degF arcs k else 1099511627776) = x → w'.ownsRow (w.heap.size + 1) 3 1 v' (k + 1) (xs ++ [.int .i64 x]) → (wr.alloc (.cells #[.int .i64 x] 3)).grownBy w' u3.ownBlock →
          (w'.ownsRow (w.heap.size + 1) 3 1 v' (k + 1) (((firstL al (degF arcs)).take (k + 1)).map (Value.int .i64)) ∧ Below (w.heap.size + 1) (w.alloc (.cells #[.slice (some ⟨b, off, none⟩) al.length ca, .slice bo arcs.length cb] 25)) w')) := by
        intro x v' w' hx ho hg
        exact ⟨by rw [HE.out, hx]; exact ho, (hb.alloc (by omega) _).grown hg (by simp; omega) (fun j hj => (hown.lt j hj).1)⟩
      clear hc hA hb hbw HE hR
      obtain ⟨wo, rfl⟩ : ∃ x, x = wr := ⟨_, rfl⟩
      go_wp2
      go_loopw [5, 6] (fun n i wr => ∃ j : Nat, j ≤ arcs.length ∧ i = .int .i64 j ∧ n = .int .i64 (degF (arcs.take j) k) ∧ wr = wo) (fun _ i _ => arcs.length - (intOf i).toNat)
      case atStart => exact ⟨0, Nat.zero_le _, rfl, rfl, rfl⟩
      case round =>
        obtain ⟨j, hj, rfl, rfl, rfl⟩ := hrel
        by_cases hlj : j < arcs.length
        · rcases hR2 with h0 | ⟨rb, roff, rfl, hrbr, hrc⟩
          · subst h0; simp at hlj
          obtain ⟨d0, d1, d2⟩ := PcAt.at3 hlj hrc
          have HD := hidep (degF_succR arcs j hlj k)
          have hbd : 0 ≤ degF (arcs.take j) k ∧ degF (arcs.take j) k ≤ 30 := by
            have h1 := degF_boundsR (arcs.take j) k
            have h2 : (arcs.take j).length ≤ arcs.length := List.length_take_le' _ _
            omega
          have hji : (j : Int) < (arcs.length : Int) := by omega
          clear hrc
          generalize degF (arcs.take j) k = dj at *
          have hw1 : IntKind.i64.wrap (dj + 1) = dj + 1 := wrap_small _ (by omega) (by omega)
          by_cases ge : arcs[j].1 = (k : Int)
          · have g1 : (arcs[j].1 == (k : Int)) = true := by simpa using ge
            rw [if_pos ge] at HD
            clear ge
            generalize arcs[j].1 = aj at *
            go_wp2
            go_roundw
            case rel => exact ⟨j + 1, by omega, by go_num, by rw [HD.out], by trivial⟩
            case measure => simp [intOf]; omega
          · have g1 : (arcs[j].1 == (k : Int)) = false := by simpa using ge
            rw [if_neg ge, Int.add_zero] at HD
            clear ge
            generalize arcs[j].1 = aj at *
            go_wp2
            go_roundw
            case rel => exact ⟨j + 1, by omega, by go_num, by rw [HD.out], by trivial⟩
            case measure => simp [intOf]; omega
        · have hjl : j = arcs.length := by omega
          subst hjl
          rw [List.take_length]
          generalize degF arcs k = dk at *
          clear hR2
          cases ea : al[k] with
          | false =>
            rw [ea] at c0 HN
            simp only [Bool.false_eq_true, if_false] at HN
            clear ea
            go_wp2_with (at_builtin; refine wpList_append_own _ rfl _ _ 28 rfl (w.heap.size + 1) 3 i0 _ 1 8 Try.underlying28 hi hz0 hz1 hz2 rfl (by decide) _ k _ rfl (hown.alloc _) ⟨wr.heap.size, 0, none⟩ 1 1 [.int .i64 1099511627776] rfl rfl ?c1 ?c2 (by unfold maxLen; omega) (by omega) (by simp; omega) ?_)
            case c1 => exact World.news_of_block (cs := #[.int .i64 1099511627776]) (t := 3) (fr := (0, 0)) (heap_alloc_new wr _)
            case c2 => intro u hu; simp at hu; subst hu; rfl
            intro v1 w1 hown' hgrow hnil'
            have HR := hidep (HN.out _ _ _ rfl hown' hgrow)
            clear hown hown' hgrow hnil'
            go_wp2
            go_roundw
            case rel => exact ⟨k + 1, by omega, by go_num, HR.out.1, HR.out.2⟩
            case measure => simp [intOf]; omega
          | true =>
            rw [ea] at c0 HN
            simp only [if_true] at HN
            clear ea
            go_wp2_with (at_builtin; refine wpList_append_own _ rfl _ _ 28 rfl (w.heap.size + 1) 3 i0 _ 1 8 Try.underlying28 hi hz0 hz1 hz2 rfl (by decide) _ k _ rfl (hown.alloc _) ⟨wr.heap.size, 0, none⟩ 1 1 [.int .i64 dk] rfl rfl ?c1 ?c2 (by unfold maxLen; omega) (by omega) (by simp; omega) ?_)
            case c1 => exact World.news_of_block (cs := #[.int .i64 dk]) (t := 3) (fr := (0, 0)) (heap_alloc_new wr _)
            case c2 => intro u hu; simp at hu; subst hu; rfl
            intro v1 w1 hown' hgrow hnil'
            have HR := hidep (HN.out _ _ _ rfl hown' hgrow)
            clear hown hown' hgrow hnil'
            go_wp2
            go_roundw
            case rel => exact ⟨k + 1, by omega, by go_num, HR.out.1, HR.out.2⟩
            case measure => simp [intOf]; omega
    · have hkl : k = al.length := by omega
      have HO : Hid (wr.ownsRow w.heap.size 3 1 u3 al.length ((firstL al (degF arcs)).map (Value.int .i64))) := by
        have h1 := hown
        rw [hkl, List.take_of_length_le (by rw [firstL_length]; exact Nat.le_refl _)] at h1
        exact owns_base2 h1 (by omega)
      clear hown
      go_wp2
      go_ret
      exact ⟨_, rfl, HO.out, hbw⟩

end Go.Proofs.Ytnopdnajlbaccab
