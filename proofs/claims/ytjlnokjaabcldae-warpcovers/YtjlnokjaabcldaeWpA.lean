/-
  What Check, checkBoth, together and changes of the program's messages answer.
-/
import Derived.Test.YtjlnokjaabcldaePChk
import Derived.Test.YtjlnokjaabcldaePJn
import Derived.Test.YtjlnokjaabcldaeWpMath
namespace Go.Proofs.Ytjlnokjaabcldae
open Go.RowKit

theorem hideW {p : Prop} (h : p) : Hid p := h

theorem goodM_take_succ {m : List (Int × Int × Int)} {k : Nat} (hk : k < m.length) (h : ∀ q ∈ m.take k, GoodM q) (h1 : GoodM m[k]) : ∀ q ∈ m.take (k + 1), GoodM q := by
  intro q hq
  rw [take_succ_get m k hk, List.mem_append, List.mem_singleton] at hq
  rcases hq with hq | rfl
  · exact h q hq
  · exact h1

set_option maxRecDepth 100000 in
set_option maxHeartbeats 2000000 in
theorem wcheck_any (ao : Option Addr) (cap : Nat) (l : List (Int × Int × Int)) (w : World) (hl : PcAt w ao l) :
    Calls Try.prog 62 #[.slice ao l.length cap] w fun e w' => e = .returned (.int .i64 (lchk l)) ∧ Below w.heap.size w w' := by
  by_cases h2 : 200 < l.length
  · have HC : Hid (lchk l = 2) := lchk_large h2
    go_enter Try.func62, Try.ntmps62
    go_wp2
    go_ret
    exact ⟨ret_int HC.out.symm, Below.refl _ _⟩
  · have h3 : l.length ≤ 200 := by omega
    go_enter Try.func62, Try.ntmps62
    go_wp2
    go_loopw [10] (fun i wr => ∃ k : Nat, k ≤ l.length ∧ i = .int .i64 k ∧ (∀ q ∈ l.take k, GoodM q) ∧ Below w.heap.size w wr) (fun i _ => l.length - (intOf i).toNat)
    case atStart => exact ⟨0, Nat.zero_le _, rfl, fun q hq => by simp at hq, Below.refl _ _⟩
    case round =>
      obtain ⟨k, hk, rfl, hn, hb⟩ := hrel
      have HN := hideW hn
      clear hn
      by_cases hlt : k < l.length
      · rcases hl.below hb with h0 | ⟨b, off, rfl, hbw, hc⟩
        · subst h0; simp at hlt
        obtain ⟨c0, c1, c2⟩ := PcAt.get hlt hc
        have HB := hideW (fun o o' => ptw (ptw hb (pal wr o)) (pal (wr.alloc o) o'))
        clear hc hl hb
        by_cases n1 : NearP l[k]
        · have e1 : (nrB l[k].1 && (nrB l[k].2.1 && nrB l[k].2.2)) = true := (nr3_iff l[k]).2 n1
          by_cases g1 : l[k].2.1 ≤ l[k].1
          · have HC : Hid (lchk l = 5) := lchk_no h3 (List.getElem_mem hlt) (fun h => by have := h.2; omega)
            have d1 : decide (l[k].2.1 ≤ l[k].1) = true := by simpa using g1
            clear n1 g1
            go_wp2_with fail
            refine (Near_three (wr.heap.size + 1) l[k].1 l[k].2.1 l[k].2.2 _ (by simp) (by simp) (by simp) (by simp)).mono ?_
            rintro e w1 ⟨rfl, rfl⟩
            rw [e1]
            go_wp2
            go_ret
            exact ⟨ret_int HC.out.symm, HB.out _ _⟩
          · have HS := hideW (goodM_take_succ hlt HN.out ⟨n1, by omega⟩)
            have d1 : decide (l[k].2.1 ≤ l[k].1) = false := by simpa using g1
            clear n1 g1
            go_wp2_with fail
            refine (Near_three (wr.heap.size + 1) l[k].1 l[k].2.1 l[k].2.2 _ (by simp) (by simp) (by simp) (by simp)).mono ?_
            rintro e w1 ⟨rfl, rfl⟩
            rw [e1]
            go_wp2
            go_roundw
            case rel => exact ⟨k + 1, by omega, by go_num, HS.out, HB.out _ _⟩
            case measure => simp [intOf]; omega
        · have HC : Hid (lchk l = 5) := lchk_no h3 (List.getElem_mem hlt) (fun h => n1 h.1)
          have e1 : (nrB l[k].1 && (nrB l[k].2.1 && nrB l[k].2.2)) = false := by
            have := nr3_iff l[k]
            unfold nr3 at this
            rw [← Bool.not_eq_true, this]; exact n1
          clear n1
          go_wp2_with fail
          refine (Near_three (wr.heap.size + 1) l[k].1 l[k].2.1 l[k].2.2 _ (by simp) (by simp) (by simp) (by simp)).mono ?_
          rintro e w1 ⟨rfl, rfl⟩
          rw [e1]
          go_wp2
          go_ret
          exact ⟨ret_int HC.out.symm, HB.out _ _⟩
      · have hkl : k = l.length := by omega
        have HC : Hid (lchk l = 0) := lchk_ok h3 (by have := HN.out; rwa [hkl, List.take_length] at this)
        subst hkl
        go_wp2
        go_ret
        exact ⟨ret_int HC.out.symm, hb⟩

/-- what is wrong with messages and a way to put together -/
def cbChk (l : List (Int × Int × Int)) (how : Int) : Int := if lchk l = 0 then if isHow how = true then 0 else 1 else lchk l
theorem cbChk_bad {l : List (Int × Int × Int)} {how : Int} (h : ¬ cbChk l how = 0) : ∃ n, cbChk l how = n ∧ (n = 1 ∨ n = 2 ∨ n = 5) := by
  unfold cbChk at h ⊢
  rcases lchk_cases l with (e | e) | ⟨e, _⟩
  · rw [e]; exact ⟨2, rfl, .inr (.inl rfl)⟩
  · rw [e]; exact ⟨5, rfl, .inr (.inr rfl)⟩
  · rw [e] at h ⊢
    by_cases hh : isHow how = true
    · simp [hh] at h
    · exact ⟨1, by simp [hh], .inl rfl⟩
theorem cbChk_good {l : List (Int × Int × Int)} {how : Int} (h : cbChk l how = 0) : l.length ≤ 200 ∧ (∀ p ∈ l, GoodM p) ∧ (how = 1 ∨ how = 2 ∨ how = 3) ∧ lchk l = 0 := by
  unfold cbChk at h
  rcases lchk_cases l with (e | e) | ⟨e, h1, h2⟩
  · rw [e] at h; simp at h
  · rw [e] at h; simp at h
  · rw [e] at h
    by_cases hh : isHow how = true
    · unfold isHow at hh; rw [decide_eq_true_eq] at hh; exact ⟨h1, h2, hh, e⟩
    · simp [hh] at h

set_option maxRecDepth 100000 in
theorem checkBoth_any (ao : Option Addr) (cap : Nat) (l : List (Int × Int × Int)) (how : Int) (w : World) (hl : PcAt w ao l) :
    Calls Try.prog 45 #[.slice ao l.length cap, .int .i64 how] w fun e w' => e = .returned (.int .i64 (cbChk l how)) ∧ Below w.heap.size w w' := by
  have hck := wcheck_any ao cap l w hl
  have hJ := fun W => joins_any how W
  clear hl
  rcases lchk_cases l with (e | e) | ⟨e, _⟩
  · have HC : Hid (cbChk l how = 2) := by show _ = _; unfold cbChk; rw [e]; rfl
    rw [e] at hck
    clear e hJ
    go_enter Try.func45, Try.ntmps45
    go_wp2_with fail
    refine hck.mono ?_
    rintro e w1 ⟨rfl, hb1⟩
    go_wp2
    go_ret
    exact ⟨ret_int HC.out.symm, hb1⟩
  · have HC : Hid (cbChk l how = 5) := by show _ = _; unfold cbChk; rw [e]; rfl
    rw [e] at hck
    clear e hJ
    go_enter Try.func45, Try.ntmps45
    go_wp2_with fail
    refine hck.mono ?_
    rintro e w1 ⟨rfl, hb1⟩
    go_wp2
    go_ret
    exact ⟨ret_int HC.out.symm, hb1⟩
  · have HC : Hid (cbChk l how = if isHow how = true then 0 else 1) := by show _ = _; unfold cbChk; rw [e]; rfl
    rw [e] at hck
    clear e
    cases hh : isHow how with
    | true =>
      rw [hh] at HC hJ
      clear hh
      go_enter Try.func45, Try.ntmps45
      go_wp2_with fail
      refine hck.mono ?_
      rintro e w1 ⟨rfl, hb1⟩
      go_wp2_with (go_at_call 29; refine (hJ _).mono ?_; rintro e w' ⟨rfl, rfl⟩)
      go_ret
      exact ⟨ret_int HC.out.symm, by assumption⟩
    | false =>
      rw [hh] at HC hJ
      clear hh
      go_enter Try.func45, Try.ntmps45
      go_wp2_with fail
      refine hck.mono ?_
      rintro e w1 ⟨rfl, hb1⟩
      go_wp2_with (go_at_call 29; refine (hJ _).mono ?_; rintro e w' ⟨rfl, rfl⟩)
      go_ret
      exact ⟨ret_int HC.out.symm, by assumption⟩

/-- what is told of one value more -/
theorem mixv (how : Int) (o : Option Int) (v : Int) : (mixO how o v).getD 0 = (match o with | none => v | some x => both how x v) := by cases o <;> rfl

set_option maxRecDepth 100000 in
set_option maxHeartbeats 4000000 in
theorem wtogether_any (ao : Option Addr) (cap : Nat) (l : List (Int × Int × Int)) (t how : Int) (w : World) (hl : PcAt w ao l) (h3 : l.length ≤ 200) (hg : ∀ p ∈ l, GoodM p) (hh : how = 1 ∨ how = 2 ∨ how = 3) :
    Calls Try.prog 50 #[.slice ao l.length cap, .int .i64 t, .int .i64 how] w fun e w' => e = .returned (.tuple #[.int .i64 ((mix how l t).getD 0), .bool (mix how l t).isSome]) ∧ Below w.heap.size w w' := by
  have HG := hideW hg
  clear hg
  go_enter Try.func50, Try.ntmps50
  go_wp2
  go_loopw [8, 9, 14] (fun v s i wr => ∃ k : Nat, k ≤ l.length ∧ i = .int .i64 k ∧ v = .int .i64 ((mix how (l.take k) t).getD 0) ∧ s = .bool (mix how (l.take k) t).isSome ∧ Below w.heap.size w wr) (fun _ _ i _ => l.length - (intOf i).toNat)
  case atStart => exact ⟨0, Nat.zero_le _, rfl, rfl, rfl, Below.refl _ _⟩
  case round =>
    obtain ⟨k, hk, rfl, rfl, rfl, hb⟩ := hrel
    by_cases hlt : k < l.length
    · rcases hl.below hb with h0 | ⟨b, off, rfl, hbw, hc⟩
      · subst h0; simp at hlt
      obtain ⟨c0, c1, c2⟩ := PcAt.get hlt hc
      have HB := hideW (fun o => ptw hb (pal wr o))
      have HM := hideW (mix_take (how := how) (t := t) hlt)
      have HBd := hideW (fun x => mix_bound_take (how := how) (t := t) (x := x) (k := k) (fun p hp => (HG.out p hp).1.2.2) h3)
      have hgk := HG.out l[k] (List.getElem_mem hlt)
      have hnv := hideW hgk.1.2.2
      clear hc hl hb hgk
      cases hin : inP l[k] t with
      | false =>
        have HM' : Hid (mix how (l.take (k + 1)) t = mix how (l.take k) t) := by show _ = _; rw [HM.out, hin]; rfl
        generalize mix how (l.take k) t = o at *
        by_cases g1 : t < l[k].1
        · have d1 : decide (t < l[k].1) = true := by simpa using g1
          clear hin g1
          go_wp2
          go_roundw
          case rel => exact ⟨k + 1, by omega, by go_num, by rw [HM'.out], by rw [HM'.out], HB.out _⟩
          case measure => simp [intOf]; omega
        · have d1 : decide (t < l[k].1) = false := by simpa using g1
          have d2 : decide (l[k].2.1 ≤ t) = true := by
            have : ¬ (inP l[k] t = true) := by rw [hin]; decide
            rw [inP_iff] at this
            simp; omega
          clear hin g1
          go_wp2
          go_roundw
          case rel => exact ⟨k + 1, by omega, by go_num, by rw [HM'.out], by rw [HM'.out], HB.out _⟩
          case measure => simp [intOf]; omega
      | true =>
        have HM' : Hid (mix how (l.take (k + 1)) t = mixO how (mix how (l.take k) t) l[k].2.2) := by show _ = _; rw [HM.out, hin]; rfl
        have hi2 := (inP_iff _ _).1 hin
        have d1 : decide (t < l[k].1) = false := by simp; omega
        have d2 : decide (l[k].2.1 ≤ t) = false := by simp; omega
        clear hin hi2
        cases ho : mix how (l.take k) t with
        | none =>
          rw [ho] at HM'
          have HV : Hid ((mix how (l.take (k + 1)) t).getD 0 = l[k].2.2 ∧ (mix how (l.take (k + 1)) t).isSome = true) := by show _ ∧ _; rw [HM'.out]; exact ⟨rfl, rfl⟩
          clear ho
          simp only [Option.getD_none, Option.isSome_none]
          go_wp2
          go_roundw
          case rel => exact ⟨k + 1, by omega, by go_num, by rw [HV.out.1], by rw [HV.out.2], HB.out _⟩
          case measure => simp [intOf]; omega
        | some x =>
          rw [ho] at HM'
          have hT := fun W => join_any x l[k].2.2 how W hh (by have := HBd.out x ho; unfold wideB; omega) (wide_of_near hnv.out)
          have HV : Hid ((mix how (l.take (k + 1)) t).getD 0 = both how x l[k].2.2 ∧ (mix how (l.take (k + 1)) t).isSome = true) := by show _ ∧ _; rw [HM'.out]; exact ⟨rfl, rfl⟩
          clear ho
          simp only [Option.getD_some, Option.isSome_some]
          generalize both how x l[k].2.2 = q at hT HV
          go_wp2_with (go_at_call 33; refine (hT _).mono ?_; rintro e w' ⟨rfl, rfl⟩)
          go_roundw
          case rel => exact ⟨k + 1, by omega, by go_num, by rw [HV.out.1], by rw [HV.out.2], HB.out _⟩
          case measure => simp [intOf]; omega
    · have hkl : k = l.length := by omega
      subst hkl
      rw [List.take_length]
      go_wp2
      go_ret2
      exact ⟨rfl, hb⟩

set_option maxRecDepth 100000 in
set_option maxHeartbeats 4000000 in
theorem wchanges_any (mo lo : Option Addr) (mc lc : Nat) (m l : List (Int × Int × Int)) (w : World) (hm : PcAt w mo m) (hl : PcAt w lo l) (h3 : m.length ≤ 200) (h4 : l.length ≤ 200) :
    Calls Try.prog 48 #[.slice mo m.length mc, .slice lo l.length lc] w fun e w' => ∃ v, e = .returned v ∧ w'.ownsRow w.heap.size 3 1 v (turnsOf m ++ turnsOf l).length ((turnsOf m ++ turnsOf l).map (Value.int .i64)) ∧ Below w.heap.size w w' := by
  obtain ⟨i0, hi, hz0, hz1, hz2⟩ := info_parts Try.infoInt
  have hnb : ∀ (o : Obj) (v : Value) (n : Nat) (xs : List Value) (wr : World), wr.ownsRow w.heap.size 3 1 v n xs → Below w.heap.size w wr → ∀ (o' : Obj) (w1 : World), ((wr.alloc o).alloc o').grownBy w1 v.ownBlock → Below w.heap.size w w1 := fun o v n xs wr ho hb o' w1 hgr => ((hb.alloc hb.size o).alloc (by have := hb.size; simp; omega) o').grown hgr (by have := hb.size; simp; omega) (fun j hj => (ho.lt j hj).1)
  have HNB := hideW hnb
  clear hnb
  go_enter Try.func48, Try.ntmps48
  go_wp2
  go_loopw [5, 12] (fun v i wr => ∃ k : Nat, k ≤ m.length ∧ i = .int .i64 k ∧ wr.ownsRow w.heap.size 3 1 v (2 * k) ((turnsOf (m.take k)).map (Value.int .i64)) ∧ Below w.heap.size w wr) (fun _ i _ => m.length - (intOf i).toNat)
  case atStart => exact ⟨0, Nat.zero_le _, rfl, World.ownsRow_nil _ _ _ _, Below.refl _ _⟩
  case round =>
    obtain ⟨k, hk, rfl, hown, hb⟩ := hrel
    have hsz := hb.size
    by_cases hlt : k < m.length
    · rcases hm.below hb with h0 | ⟨b, off, rfl, hbw, hc⟩
      · subst h0; simp at hlt
      obtain ⟨c0, c1, c2⟩ := PcAt.get hlt hc
      have HT := hideW (turnsOf_succ m k hlt)
      have HBg := hideW (fun o o' w1 => HNB.out o u5 _ _ wr hown hb o' w1)
      clear hc hm hb
      go_wp2_with (at_builtin; refine wpList_append_own _ rfl _ _ 40 rfl w.heap.size 3 i0 (.int .i64 0) 1 8 Try.underlying40 hi hz0 hz1 hz2 rfl (by decide) _ _ _ rfl (World.ownsRow.alloc (World.ownsRow.alloc (w := wr) hown _) _) ⟨wr.heap.size + 1, 0, none⟩ 2 2 [.int .i64 m[k].1, .int .i64 m[k].2.1] rfl rfl (cells_two_new _ _ _ _ _ (by simp)) (by intro u hu; simp at hu; rcases hu with rfl | rfl <;> rfl) (by unfold maxLen; omega) (by omega) (by simp; omega) ?_; intro v' w1 hown1 hgrow _)
      have hb' := HBg.out _ _ _ hgrow
      have R : w1.ownsRow w.heap.size 3 1 v' (2 * (k + 1)) ((turnsOf (m.take (k + 1))).map (Value.int .i64)) := by
        rw [HT.out, List.map_append]; exact hown1
      clear hgrow hown hown1
      go_wp2
      go_roundw
      case rel => exact ⟨k + 1, by omega, by go_num, R, hb'⟩
      case measure => simp [intOf]; omega
    · have hkl : k = m.length := by omega
      subst hkl
      rw [List.take_length] at hown
      have hml : (turnsOf m).length = 2 * m.length := turnsOf_length m
      have HML := hideW hml
      clear hm hml
      obtain ⟨wo, hwo⟩ : ∃ x, x = wr := ⟨_, rfl⟩
      rw [← hwo] at hown hb hsz ⊢
      have hu5 := hown
      clear hwo
      go_wp2
      go_loopw [5, 26] (fun v i wr => ∃ k : Nat, k ≤ l.length ∧ i = .int .i64 k ∧ wr.ownsRow w.heap.size 3 1 v (2 * m.length + 2 * k) ((turnsOf m ++ turnsOf (l.take k)).map (Value.int .i64)) ∧ Below w.heap.size w wr) (fun _ i _ => l.length - (intOf i).toNat)
      case atStart => exact ⟨0, Nat.zero_le _, rfl, by rw [List.take_zero, show turnsOf ([] : List (Int × Int × Int)) = [] from rfl, List.append_nil]; exact hown, hb⟩
      case round =>
        clear hown hb hsz hu5
        obtain ⟨k, hk, rfl, hown, hb⟩ := hrel
        have hsz := hb.size
        by_cases hlt : k < l.length
        · rcases hl.below hb with h0 | ⟨b, off, rfl, hbw, hc⟩
          · subst h0; simp at hlt
          obtain ⟨c0, c1, c2⟩ := PcAt.get hlt hc
          have HT := hideW (turnsOf_succ l k hlt)
          have HBg := hideW (fun o o' w1 => HNB.out o _ _ _ wr hown hb o' w1)
          clear hc hl hb
          go_wp2_with (at_builtin; refine wpList_append_own _ rfl _ _ 40 rfl w.heap.size 3 i0 (.int .i64 0) 1 8 Try.underlying40 hi hz0 hz1 hz2 rfl (by decide) _ _ _ rfl (World.ownsRow.alloc (World.ownsRow.alloc (w := wr) hown _) _) ⟨wr.heap.size + 1, 0, none⟩ 2 2 [.int .i64 l[k].1, .int .i64 l[k].2.1] rfl rfl (cells_two_new _ _ _ _ _ (by simp)) (by intro u hu; simp at hu; rcases hu with rfl | rfl <;> rfl) (by unfold maxLen; omega) (by omega) (by simp; omega) ?_; intro v' w1 hown1 hgrow _)
          have hb' := HBg.out _ _ _ hgrow
          have R : w1.ownsRow w.heap.size 3 1 v' (2 * m.length + 2 * (k + 1)) ((turnsOf m ++ turnsOf (l.take (k + 1))).map (Value.int .i64)) := by
            rw [HT.out, ← List.append_assoc, List.map_append]; exact hown1
          clear hgrow hown hown1
          go_wp2
          go_roundw
          case rel => exact ⟨k + 1, by omega, by go_num, R, hb'⟩
          case measure => simp [intOf]; omega
        · have hkl : k = l.length := by omega
          subst hkl
          rw [List.take_length] at hown
          have R : Hid (wr.ownsRow w.heap.size 3 1 u5 (turnsOf m ++ turnsOf l).length ((turnsOf m ++ turnsOf l).map (Value.int .i64))) := by
            show World.ownsRow _ _ _ _ _ _ _
            rw [List.length_append, HML.out, turnsOf_length l]; exact hown
          clear hown
          go_wp2
          go_ret
          exact ⟨_, rfl, R.out, hb⟩

end Go.Proofs.Ytjlnokjaabcldae
