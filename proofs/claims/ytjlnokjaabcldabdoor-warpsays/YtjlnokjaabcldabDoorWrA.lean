/-
  What Messages, mailTurns and Mixed of the reference answer.
-/
import Derived.Test.YtjlnokjaabcldabDoorWpB
import Derived.Test.YtjlnokjaabcldabDoorWtMath
import Derived.Test.YtjlnokjaabcldabDoorRMapC
import Derived.Test.YtjlnokjaabcldabDoorRBth
import Derived.Test.YtjlnokjaabcldabDoorTbl
import Derived.OwnWalk
namespace Go.Proofs.YtjlnokjaabcldabDoor
open Go.RowKit

set_option maxRecDepth 100000 in
set_option maxHeartbeats 4000000 in
theorem Messages_any (ao : Option Addr) (cap : Nat) (l : List (Int × Int × Int)) (w : World) (hl : PcAt w ao l) :
    Calls Tryd.prog 9 #[.slice ao l.length cap] w fun e w' => e = .returned (.int .i64 (lchk l)) ∧ Below w.heap.size w w' := by
  by_cases h2 : 200 < l.length
  · have HC : Hid (lchk l = 2) := lchk_large h2
    go_enter Tryd.func9, Tryd.ntmps9
    go_wp2
    go_ret
    exact ⟨ret_int HC.out.symm, Below.refl _ _⟩
  · have h3 : l.length ≤ 200 := by omega
    go_enter Tryd.func9, Tryd.ntmps9
    go_wp2
    go_loopw [3] (fun i wr => ∃ k : Nat, k ≤ l.length ∧ i = .int .i64 k ∧ (∀ q ∈ l.take k, GoodM q) ∧ Below w.heap.size w wr) (fun i _ => l.length - (intOf i).toNat)
    case atStart => exact ⟨0, Nat.zero_le _, rfl, fun q hq => by simp at hq, Below.refl _ _⟩
    case round =>
      obtain ⟨k, hk, rfl, hn, hb⟩ := hrel
      have HN := hideW hn
      clear hn
      by_cases hlt : k < l.length
      · rcases hl.below hb with h0 | ⟨b, off, rfl, hbw, hc⟩
        · subst h0; simp at hlt
        obtain ⟨c0, c1, c2⟩ := PcAt.get hlt hc
        have HB := hideW (fun o => ptw hb (pal wr o))
        have hNo : ¬ GoodM l[k] → lchk l = 5 := fun h => lchk_no h3 (List.getElem_mem hlt) h
        have HNo := hideW hNo
        have nr := fun x W => near_any x W
        clear hc hl hb hNo
        by_cases n0 : nearB l[k].1
        · have y0 := nb_yes n0
          by_cases n1 : nearB l[k].2.1
          · have y1 := nb_yes n1
            by_cases n2 : nearB l[k].2.2
            · have y2 := nb_yes n2
              by_cases g1 : l[k].2.1 ≤ l[k].1
              · have HC := hideW (HNo.out (fun h => by have := h.2; omega))
                have d1 : decide (l[k].2.1 ≤ l[k].1) = true := by simpa using g1
                clear n0 n1 n2 g1
                go_wp2_with (go_at_call 22; refine (nr _ _).mono ?_; rintro e w' ⟨rfl, rfl⟩; first | rw [y0] | rw [y1] | rw [y2])
                go_ret
                exact ⟨ret_int HC.out.symm, HB.out _⟩
              · have HS := hideW (goodM_take_succ hlt HN.out ⟨⟨n0, n1, n2⟩, by omega⟩)
                have d1 : decide (l[k].2.1 ≤ l[k].1) = false := by simpa using g1
                clear n0 n1 n2 g1
                go_wp2_with (go_at_call 22; refine (nr _ _).mono ?_; rintro e w' ⟨rfl, rfl⟩; first | rw [y0] | rw [y1] | rw [y2])
                go_roundw
                case rel => exact ⟨k + 1, by omega, by go_num, HS.out, HB.out _⟩
                case measure => simp [intOf]; omega
            · have HC := hideW (HNo.out (fun h => n2 h.1.2.2))
              have y2 := nb_no n2
              clear n0 n1 n2
              go_wp2_with (go_at_call 22; refine (nr _ _).mono ?_; rintro e w' ⟨rfl, rfl⟩; first | rw [y0] | rw [y1] | rw [y2])
              go_ret
              exact ⟨ret_int HC.out.symm, HB.out _⟩
          · have HC := hideW (HNo.out (fun h => n1 h.1.2.1))
            have y1 := nb_no n1
            clear n0 n1
            go_wp2_with (go_at_call 22; refine (nr _ _).mono ?_; rintro e w' ⟨rfl, rfl⟩; first | rw [y0] | rw [y1])
            go_ret
            exact ⟨ret_int HC.out.symm, HB.out _⟩
        · have HC := hideW (HNo.out (fun h => n0 h.1.1))
          have y0 := nb_no n0
          clear n0
          go_wp2_with (go_at_call 22; refine (nr _ _).mono ?_; rintro e w' ⟨rfl, rfl⟩; rw [y0])
          go_ret
          exact ⟨ret_int HC.out.symm, HB.out _⟩
      · have hkl : k = l.length := by omega
        have HC : Hid (lchk l = 0) := lchk_ok h3 (by have := HN.out; rwa [hkl, List.take_length] at this)
        subst hkl
        go_wp2
        go_ret
        exact ⟨ret_int HC.out.symm, hb⟩

set_option maxRecDepth 100000 in
set_option maxHeartbeats 3200000 in
theorem mailTurns_any (ao : Option Addr) (cap : Nat) (l : List (Int × Int × Int)) (w : World) (hl : PcAt w ao l) (h3 : l.length ≤ 200) :
    Calls Tryd.prog 20 #[.slice ao l.length cap] w fun e w' => ∃ v, e = .returned v ∧ w'.ownsRow w.heap.size 3 1 v (2 * l.length) ((turnsOf l).map (Value.int .i64)) ∧ (l.length = 0 → v = .slice none 0 0) ∧ Below w.heap.size w w' := by
  obtain ⟨i0, hi, hz0, hz1, hz2⟩ := info_parts Tryd.infoInt
  go_enter Tryd.func20, Tryd.ntmps20
  go_wp2
  go_loopw [3, 4] (fun v i wr => ∃ k : Nat, k ≤ l.length ∧ i = .int .i64 k ∧ wr.ownsRow w.heap.size 3 1 v (2 * k) ((turnsOf (l.take k)).map (Value.int .i64)) ∧ (k = 0 → v = .slice none 0 0) ∧ Below w.heap.size w wr) (fun _ i _ => l.length - (intOf i).toNat)
  case atStart => exact ⟨0, Nat.zero_le _, rfl, World.ownsRow_nil _ _ _ _, fun _ => rfl, Below.refl _ _⟩
  case round =>
    obtain ⟨k, hk, rfl, hown, hnil, hb⟩ := hrel
    have HNil : Hid (k = 0 → u3 = .slice none 0 0) := hnil
    clear hnil
    by_cases hlt : k < l.length
    · rcases hl with h0 | ⟨b, off, rfl, hbw, hc⟩
      · subst h0; simp at hlt
      obtain ⟨c0', c1', _⟩ := PcAt.get hlt hc
      have c0 : wr.cell? ⟨b, off + k * 3, none⟩ = some (.int .i64 l[k].1) := by rw [hb.cell (p := ⟨b, off + k * 3, none⟩) hbw, c0']
      have c1 : wr.cell? ⟨b, off + k * 3 + 1, none⟩ = some (.int .i64 l[k].2.1) := by rw [hb.cell (p := ⟨b, off + k * 3 + 1, none⟩) hbw, c1']
      clear hc c0' c1'
      have hsz := hb.size
      have hne : some b ≠ u3.ownBlock := fun h => by have := (hown.lt b h.symm).1; omega
      have hbr : b < wr.heap.size := by omega
      have hi1 : (k : Int) < (l.length : Int) := by omega
      have hi3 : (0 : Int) ≤ (k : Int) := by omega
      have HO : Hid (∀ (o : Obj) (w1 : World), ((wr.alloc o).drew).grownBy w1 u3.ownBlock → Below w.heap.size w w1) := fun o w1 hgr => ((hb.alloc hsz o).drew).grown hgr (by simp; omega) (fun j hj => (hown.lt j hj).1)
      go_wp2
      go_region_held3 (fun w' => w'.cell? ⟨b, off + k * 3, none⟩ = some (.int .i64 l[k].1) ∧ w'.cell? ⟨b, off + k * 3 + 1, none⟩ = some (.int .i64 l[k].2.1))
        (first
          | go_keep
          | (go_split_ands
             refine ⟨?_, ?_⟩
             · (rw [hgrow.cell_far _ (by simp; omega) hne]; assumption)
             · (rw [hgrow.cell_far _ (by simp; omega) hne]; assumption)))
        ((refine step_append_lies _ (by rfl) _ _ _ (by rfl) w.heap.size 3 i0 _ 1 8 Tryd.underlying43 hi hz0 hz1 hz2 rfl (by omega) u3 (2 * k) ((turnsOf (l.take k)).map (Value.int .i64)) (by rfl) ((hown.alloc _).drew) ⟨wr.heap.size, 0, none⟩ 2 2 [.int .i64 l[k].1, .int .i64 l[k].2.1] (by rfl) (by rfl) (World.news_of_block (cs := #[.int .i64 l[k].1, .int .i64 l[k].2.1]) (t := 3) (fr := (0, 0)) (heap_alloc_new wr _)) (by simp [Value.oneCell']) (by omega) (by unfold maxLen; omega) (by omega) (by simp; omega) (wr.heap.size + 1) (by simp) ?_; intro gg cap1 w1 hown1 hgrow hat hltg))
      have hb' := HO.out _ _ hgrow
      have R : w1.ownsRow w.heap.size 3 1 (.slice (some ⟨gg, 0, none⟩) (2 * k + 2) cap1) (2 * (k + 1)) ((turnsOf (l.take (k + 1))).map (Value.int .i64)) := by
        rw [turnsOf_succ l k hlt, List.map_append]; exact hown1
      clear hgrow hown hat hltg hne hown1
      go_wp2
      go_roundw
      case rel => exact ⟨k + 1, by omega, by go_num, R, fun h => by omega, hb'⟩
      case measure => simp [intOf]; omega
    · have hkl : k = l.length := by omega
      subst hkl
      rw [List.take_length] at hown
      go_wp2
      go_ret
      exact ⟨_, rfl, hown, HNil.out, hb⟩

theorem bmk (a b : List UInt8) : (⟨a.toArray⟩ ++ ⟨b.toArray⟩ : ByteArray) = ⟨(a ++ b).toArray⟩ := by
  apply ByteArray.ext
  simp
theorem bmk3 (a b c : List UInt8) : (⟨a.toArray⟩ ++ (⟨b.toArray⟩ ++ ⟨c.toArray⟩) : ByteArray) = ⟨(a ++ (b ++ c)).toArray⟩ := by rw [bmk, bmk]
/-- what Mixed tells -/
def mixedT (how : Int) (l : List (Int × Int × Int)) (t : Int) : Value := .tuple #[.int .i64 ((mix how l t).getD 0), .string ⟨(wtx l t l.length).toArray⟩, .bool (mix how l t).isSome]

set_option maxRecDepth 100000 in
set_option maxHeartbeats 4000000 in
theorem Mixed_any (ao : Option Addr) (cap : Nat) (l : List (Int × Int × Int)) (t how : Int) (w : World) (hl : PcAt w ao l) (h3 : l.length ≤ 200) (hg : ∀ p ∈ l, GoodM p) (hh : how = 1 ∨ how = 2 ∨ how = 3) (hT : Tab w) :
    Calls Tryd.prog 21 #[.slice ao l.length cap, .int .i64 t, .int .i64 how] w fun e w' => e = .returned (mixedT how l t) ∧ Below w.heap.size w w' := by
  have HG := hideW hg
  have HTb := hideW hT.low
  clear hg hT
  go_enter Tryd.func21, Tryd.ntmps21
  go_wp2
  go_loopw [9, 10, 11] (fun v s i wr => ∃ k : Nat, k ≤ l.length ∧ i = .int .i64 k ∧ v = .int .i64 ((mix how (l.take k) t).getD 0) ∧ s = .string ⟨(wtx l t k).toArray⟩ ∧ Below w.heap.size w wr) (fun _ _ i _ => l.length - (intOf i).toNat)
  case atStart => exact ⟨0, Nat.zero_le _, rfl, rfl, rfl, Below.refl _ _⟩
  case round =>
    obtain ⟨k, hk, rfl, rfl, rfl, hb⟩ := hrel
    have hwl : (wtx l t k).length ≤ 1000 := by have := wtx_len (l := l) (t := t) (k := k) (by omega); omega
    by_cases hlt : k < l.length
    · rcases hl.below hb with h0 | ⟨b, off, rfl, hbw, hc⟩
      · subst h0; simp at hlt
      obtain ⟨c0, c1, c2⟩ := PcAt.get hlt hc
      have HM := hideW (mix_take (how := how) (t := t) hlt)
      have HBd := hideW (fun x => mix_bound_take (how := how) (t := t) (x := x) (k := k) (fun p hp => (HG.out p hp).1.2.2) h3)
      have hgk := HG.out l[k] (List.getElem_mem hlt)
      have hnv := hideW hgk.1.2.2
      have HBB := hideW hb
      clear hc hl hgk hb
      cases hin : inP l[k] t with
      | false =>
        have HM' : Hid (mix how (l.take (k + 1)) t = mix how (l.take k) t) := by show _ = _; rw [HM.out, hin]; rfl
        have HX := hideW (wtx_no hlt hin)
        generalize mix how (l.take k) t = o at *
        generalize wtx l t k = s at *
        by_cases g1 : t < l[k].1
        · have d1 : decide (t < l[k].1) = true := by simpa using g1
          clear hin g1
          go_wp2
          go_roundw
          case rel => exact ⟨k + 1, by omega, by go_num, by rw [HM'.out], by rw [HX.out], HBB.out⟩
          case measure => simp [intOf]; omega
        · have d1 : decide (t < l[k].1) = false := by simpa using g1
          have d2 : decide (l[k].2.1 ≤ t) = true := by
            have : ¬ (inP l[k] t = true) := by rw [hin]; decide
            rw [inP_iff] at this
            simp; omega
          clear hin g1
          go_wp2
          go_roundw
          case rel => exact ⟨k + 1, by omega, by go_num, by rw [HM'.out], by rw [HX.out], HBB.out⟩
          case measure => simp [intOf]; omega
      | true =>
        have HM' : Hid (mix how (l.take (k + 1)) t = mixO how (mix how (l.take k) t) l[k].2.2) := by show _ = _; rw [HM.out, hin]; rfl
        have HX := hideW (wtx_yes hlt hin)
        have hi2 := (inP_iff _ _).1 hin
        have d1 : decide (t < l[k].1) = false := by simp; omega
        have d2 : decide (l[k].2.1 ≤ t) = false := by simp; omega
        have hnil := hideW (wtx_nil (how := how) (l := l) (t := t) (k := k) (by omega))
        have hil := itoa_len (n := (k : Int)) (by omega) 3 (by omega)
        have hIt := itoa_any (k : Int) (by omega) (by omega) wr (HTb.out.below HBB.out).tab
        have b1 : ¬ (9223372036854775807 < (wtx l t k).length + ((Lib.itoa (k : Int)).length + 1)) := by omega
        have b2 : ¬ (9223372036854775807 < (Lib.itoa (k : Int)).length + 1) := by omega
        have HS := hideW (bmk3 (wtx l t k) (Lib.itoa (k : Int)) [44])
        rw [← HX.out] at HS
        clear hin hi2
        cases ho : mix how (l.take k) t with
        | none =>
          rw [ho] at HM'
          have HV : Hid ((mix how (l.take (k + 1)) t).getD 0 = l[k].2.2) := by show _ = _; rw [HM'.out]; rfl
          have q1 : (wtx l t k).isEmpty = true := by rw [List.isEmpty_iff, hnil.out]; exact ho
          clear ho
          simp only [Option.getD_none]
          generalize wtx l t k = s at *
          generalize Lib.itoa (k : Int) = y at *
          go_wp2_with fail
          refine hIt.mono ?_
          rintro e w3 ⟨rfl, hb3⟩
          have hb' := ptw HBB.out hb3
          clear hIt hb3
          go_wp2
          go_roundw
          case rel => exact ⟨k + 1, by omega, by go_num, by rw [HV.out], by rw [← HS.out], hb'⟩
          case measure => simp [intOf]; omega
        | some x =>
          rw [ho] at HM'
          have hJ := fun W => Both_any x l[k].2.2 how W hh (by have := HBd.out x ho; unfold wideB; omega) (wide_of_near hnv.out)
          have HV : Hid ((mix how (l.take (k + 1)) t).getD 0 = both how x l[k].2.2) := by show _ = _; rw [HM'.out]; rfl
          have q1 : (wtx l t k).isEmpty = false := by rw [← Bool.not_eq_true, List.isEmpty_iff, hnil.out, ho]; simp
          clear ho
          simp only [Option.getD_some]
          generalize both how x l[k].2.2 = q at hJ HV
          generalize wtx l t k = s at *
          generalize Lib.itoa (k : Int) = y at *
          go_wp2_with fail
          refine (hJ _).mono ?_
          rintro e w2 ⟨rfl, hw2⟩
          have hw2s := hw2.symm
          subst hw2s
          clear hw2 hJ
          go_wp2_with fail
          refine hIt.mono ?_
          rintro e w3 ⟨rfl, hb3⟩
          have hb' := ptw HBB.out hb3
          clear hIt hb3
          go_wp2
          go_roundw
          case rel => exact ⟨k + 1, by omega, by go_num, by rw [HV.out], by rw [← HS.out], hb'⟩
          case measure => simp [intOf]; omega
    · have hkl : k = l.length := by omega
      have hnil := hideW (wtx_nil (how := how) (l := l) (t := t) (k := k) (by omega))
      subst hkl
      rw [List.take_length] at *
      cases ho : mix how l t with
      | none =>
        have q1 : (wtx l t l.length).isEmpty = true := by rw [List.isEmpty_iff, hnil.out]; exact ho
        have HO := hideW ho
        clear ho
        simp only [Option.getD_none]
        go_wp2
        go_ret3
        exact ⟨by unfold mixedT; rw [HO.out]; rfl, hb⟩
      | some x =>
        have q1 : (wtx l t l.length).isEmpty = false := by rw [← Bool.not_eq_true, List.isEmpty_iff, hnil.out, ho]; simp
        have HO := hideW ho
        clear ho
        simp only [Option.getD_some]
        go_wp2
        go_ret3
        exact ⟨by unfold mixedT; rw [HO.out]; rfl, hb⟩

end Go.Proofs.YtjlnokjaabcldabDoor
