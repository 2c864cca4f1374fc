/-
  How the program reads an edge.
-/
import Derived.Test.YteibdmfcclkjpadPkH
namespace Go.Proofs.Yteibdmfcclkjpad
open Go.RowKit

/-- what a reading keeps: all that was there, but the reader's box -/
structure Ke (base RB : Nat) (w w' : World) : Prop where
  bel : Below base w w'
  blk : ∀ b, b < w.heap.size → b ≠ RB → w'.heap[b]? = w.heap[b]?
theorem Ke.refl {base RB : Nat} (w : World) : Ke base RB w w := ⟨Below.refl _ _, fun _ _ _ => rfl⟩
theorem Ke.kn {base RB : Nat} {w W W' : World} (h : Ke base RB w W) (k : Kn base RB RB W W') : Ke base RB w W' := ⟨h.bel.trans k.bel, fun b h1 h2 => (k.blk b h2 h2).trans (h.blk b h1 h2)⟩
theorem Ke.trans {base RB : Nat} {w W W' : World} (h : Ke base RB w W) (k : Ke base RB W W') : Ke base RB w W' := ⟨h.bel.trans k.bel, fun b h1 h2 => (k.blk b (Nat.lt_of_lt_of_le h1 h.bel.size) h2).trans (h.blk b h1 h2)⟩
theorem Ke.below {base RB n : Nat} {w W W' : World} (h : Ke base RB w W) (k : Below n W W') (h1 : w.heap.size ≤ n) (h2 : base ≤ n) : Ke base RB w W' := ⟨h.bel.trans (k.mono h2), fun b hb hne => (k.block b (Nat.lt_of_lt_of_le hb h1)).trans (h.blk b hb hne)⟩
theorem RS.below {s : ByteArray} {RB n : Nat} {st : Nat × Int} {W W' : World} (h : RS s RB st W) (k : Below n W W') (hn : RB < n) : RS s RB st W' := (k.block RB hn).trans h

theorem Try.infoLegI : (Try.prog.info? 70).map (fun i => (i.zero, i.size, i.bytes)) = some (some (.agg #[.int .i64 0, .int .i64 0, .int .i64 0, .int .i64 0]), 4, 32) := by kernel_rfl

set_option maxRecDepth 100000 in
set_option maxHeartbeats 2000000 in
theorem pEdge_any (s : ByteArray) (w : World) (base RB : Nat) (st : Nat × Int) (hs : s.size ≤ 4611686018427387904) (hat : st.1 ≤ s.size) (hb : base ≤ RB) (hR : RS s RB st w) :
    Calls Try.prog 63 #[.pointer (some ⟨RB, 0, none⟩)] w fun r w' => ∃ go gc, r = .returned (.agg #[.int .i64 (rdE s.data.toList st).2.1, .int .i64 (rdE s.data.toList st).2.2.1, .slice go (rdE s.data.toList st).2.2.2.length gc]) ∧
      w'.ownsRow w.heap.size 70 4 (.slice go (rdE s.data.toList st).2.2.2.length gc) (rdE s.data.toList st).2.2.2.length (enc4 (rdE s.data.toList st).2.2.2) ∧ RS s RB (rdE s.data.toList st).1 w' ∧ Ke base RB w w' := by
  obtain ⟨il, hil, hl0, hl1, hl2⟩ := info_parts Try.infoLegI
  have HL : Hid (s.data.toList.length = s.size) := rfl
  have hRB := heap_ltg hR
  have HNum := hideg (fun W st (ha : st.1 ≤ s.size) (h : RS s RB st W) => pNum_any s W base RB st hs ha hb h)
  obtain ⟨w0, hw0⟩ : ∃ x, x = w.alloc (.cells #[.int .i64 0, .int .i64 0, .slice none 0 0] 68) := ⟨_, rfl⟩
  have b0 : Below w.heap.size w w0 := by rw [hw0]; exact gal w _
  have hs0 : w0.heap.size = w.heap.size + 1 := by rw [hw0]; simp
  have hr0 : w0.heap[w.heap.size]? = some (.cells #[.int .i64 0, .int .i64 0, .slice none 0 0] 68 (0, 0)) := by rw [hw0]; exact heap_alloc_new w _
  have hR0 := hR.below b0 hRB
  have hK0 : Ke base RB w w0 := (Ke.refl w).below b0 (Nat.le_refl _) (by omega)
  have HEe : Hid (rdE s.data.toList st = ((rdLg s.data.toList (rdM s.data.toList st).1 (rdM s.data.toList st).2.toNat).1, ((rdA s.data.toList st).2, (rdB s.data.toList st).2, (rdLg s.data.toList (rdM s.data.toList st).1 (rdM s.data.toList st).2.toNat).2))) := rfl
  have hatA : (rdA s.data.toList st).1.1 ≤ s.size := nx_at hat
  have hatB : (rdB s.data.toList st).1.1 ≤ s.size := nx_at hatA
  have hatM : (rdM s.data.toList st).1.1 ≤ s.size := nx_at hatB
  have hm6 := nx_range (s := s.data.toList) (st := (rdB s.data.toList st).1) (most := 6) (by omega)
  have hm6' : 0 ≤ (rdM s.data.toList st).2 ∧ (rdM s.data.toList st).2 ≤ 6 := hm6
  have h1 : Calls Try.prog 61 #[.pointer (some ⟨RB, 0, none⟩)] w0 fun r W' => r = .returned (.int .i64 (rdA s.data.toList st).2) ∧ RS s RB (rdA s.data.toList st).1 W' ∧ Kn base RB RB w0 W' := HNum.out w0 st hat hR0
  have HA2 : Hid (∀ W, RS s RB (rdA s.data.toList st).1 W → Calls Try.prog 61 #[.pointer (some ⟨RB, 0, none⟩)] W fun r W' => r = .returned (.int .i64 (rdB s.data.toList st).2) ∧ RS s RB (rdB s.data.toList st).1 W' ∧ Kn base RB RB W W') := fun W h => HNum.out W _ hatA h
  have HA3 : Hid (∀ W, RS s RB (rdB s.data.toList st).1 W → Calls Try.prog 62 #[.pointer (some ⟨RB, 0, none⟩), .int .i64 6] W fun r W' => r = .returned (.int .i64 (rdM s.data.toList st).2) ∧ RS s RB (rdM s.data.toList st).1 W' ∧ Kn base RB RB W W') := fun W h => pCnt_any s W base RB _ 6 hs hatB hb (by omega) h
  obtain ⟨nm, hnm⟩ : ∃ nm : Nat, (rdM s.data.toList st).2 = (nm : Int) := ⟨(rdM s.data.toList st).2.toNat, by omega⟩
  rw [hnm] at HA3
  rw [hnm, Int.toNat_natCast] at HEe
  have hnm6 : nm ≤ 6 := by omega
  generalize (rdA s.data.toList st).2 = eA at *
  generalize (rdB s.data.toList st).2 = eB at *
  have HW0 := hideg hw0.symm
  have HR0 := hideg hr0
  have HK0 := hideg hK0
  have HS0 := hideg hs0
  clear hw0 b0 hr0 hR0 hK0 hm6 hm6' hnm hatA hatB hR hat hs0
  go_enter Try.func63, Try.ntmps63
  go_wp2_with fail
  rw [HW0.out]
  refine h1.mono ?_
  rintro r w1 ⟨rfl, hR1, hk1⟩
  have h2 := HA2.out w1 hR1
  have HK1 := hideg (HK0.out.kn hk1)
  have HR1 : Hid (w1.heap[w.heap.size]? = some (.cells #[.int .i64 0, .int .i64 0, .slice none 0 0] 68 (0, 0)) ∧ w1.heap.size = w.heap.size + 1) := ⟨(hk1.blk _ (by omega) (by omega)).trans HR0.out, hk1.size.trans HS0.out⟩
  clear h1 hR1 hk1 HA2 HK0 HR0 HS0
  go_wp2_with fail
  refine h2.mono ?_
  rintro r w2 ⟨rfl, hR2, hk2⟩
  obtain ⟨w3, hw3⟩ : ∃ x, x = w2.alloc (.cells #[.int .i64 eA, .int .i64 eB, .slice none 0 0] 68) := ⟨_, rfl⟩
  obtain ⟨XB, hXB⟩ : ∃ x, x = w.heap.size + 1 := ⟨_, rfl⟩
  have hs2 : w2.heap.size = XB := by rw [hXB]; exact hk2.size.trans HR1.out.2
  have b3 : Below w2.heap.size w2 w3 := by rw [hw3]; exact gal w2 _
  have hL3 : LS w2 w3 w.heap.size XB eA eB (.slice none 0 0) [] := ⟨fun b _ h2 => b3.block b (by omega), by rw [hw3, ← hs2]; exact heap_alloc_new w2 _, World.ownsRow_nil _ _ _ _⟩
  have hR3 := hR2.below b3 (by omega)
  have HK3 := hideg ((HK1.out.kn hk2).below b3 (by omega) (by omega))
  have HR2 : Hid (w2.heap[w.heap.size]? = some (.cells #[.int .i64 0, .int .i64 0, .slice none 0 0] 68 (0, 0))) := (hk2.blk _ (by omega) (by omega)).trans HR1.out.1
  have HL3 := hideg hL3
  have h3 := HA3.out w3 hR3
  have HW3 := hideg hw3.symm
  have HXB := hideg hXB
  have HS2 := hideg hs2
  have hwX : w.heap.size < XB := by omega
  clear h2 hR2 hk2 HK1 HR1 hw3 b3 hL3 hR3 HA3 hXB hs2
  go_wp2_with fail
  rw [HW3.out, HS2.out]
  refine h3.mono ?_
  rintro r w4 ⟨rfl, hR4, hk4⟩
  have HL4 := hideg (HL3.out.kn hk4 hRB hRB (by omega))
  have HK4 := hideg (HK3.out.kn hk4)
  obtain ⟨stM, hstM⟩ : ∃ x, x = (rdM s.data.toList st).1 := ⟨_, rfl⟩
  rw [← hstM] at hR4 HEe hatM
  have HR4 := hideg hR4
  have HLM : Hid (stM.1 ≤ s.data.toList.length) := by show _ ≤ _; rw [HL.out]; exact hatM
  clear h3 hk4 hR4 HL3 HK3 HW3 HS2 hstM hatM
  go_wp2_with fail
  go_loopw [11] (fun j wq => ∃ (m : Nat) (vG : Value), m ≤ nm ∧ j = .int .i64 (m : Int) ∧ LS w2 wq w.heap.size XB eA eB vG (rdLg s.data.toList stM m).2 ∧ RS s RB (rdLg s.data.toList stM m).1 wq ∧ Ke base RB w wq) (fun j _ => nm - (intOf j).toNat)
  case atStart => exact ⟨0, _, Nat.zero_le _, rfl, HL4.out, HR4.out, HK4.out⟩
  case round =>
    clear HL4 HR4 HK4
    obtain ⟨m, vG, hm, rfl, hS, hD, hK⟩ := hrel
    by_cases hml : m < nm
    · have hmi : (m : Int) < (nm : Int) := by omega
      have hmw : IntKind.i64.wrap ((m : Int) + 1) = (m : Int) + 1 := wrap_q _ (by omega) (by omega)
      have HSg : Hid (rdLg s.data.toList stM (m + 1) = ((rd1 s.data.toList (rdLg s.data.toList stM m).1).1, (rdLg s.data.toList stM m).2 ++ [(rd1 s.data.toList (rdLg s.data.toList stM m).1).2])) := rfl
      have hllg := rdLg_len s.data.toList stM m
      have hatg : (rdLg s.data.toList stM m).1.1 ≤ s.size := rdLg_at HLM.out m
      obtain ⟨tm, htm⟩ : ∃ x, x = (rdLg s.data.toList stM m).1 := ⟨_, rfl⟩
      rw [← htm] at HSg hatg hD
      have H1d : Hid (rd1 s.data.toList tm = ((nx s.data.toList (nx s.data.toList (nx s.data.toList (nx s.data.toList tm 65535).1 65535).1 65535).1 65535).1, ((nx s.data.toList tm 65535).2, (nx s.data.toList (nx s.data.toList tm 65535).1 65535).2, (nx s.data.toList (nx s.data.toList (nx s.data.toList tm 65535).1 65535).1 65535).2, (nx s.data.toList (nx s.data.toList (nx s.data.toList (nx s.data.toList tm 65535).1 65535).1 65535).1 65535).2))) := rfl
      have HC0 : Hid (∀ W, RS s RB tm W → Calls Try.prog 61 #[.pointer (some ⟨RB, 0, none⟩)] W fun r W' => r = .returned (.int .i64 (nx s.data.toList tm 65535).2) ∧ RS s RB (nx s.data.toList tm 65535).1 W' ∧ Kn base RB RB W W') := fun W h => HNum.out W tm hatg h
      have hat1 : (nx s.data.toList tm 65535).1.1 ≤ s.size := nx_at hatg
      generalize nx s.data.toList tm 65535 = N1 at *
      have HC1 : Hid (∀ W, RS s RB N1.1 W → Calls Try.prog 61 #[.pointer (some ⟨RB, 0, none⟩)] W fun r W' => r = .returned (.int .i64 (nx s.data.toList N1.1 65535).2) ∧ RS s RB (nx s.data.toList N1.1 65535).1 W' ∧ Kn base RB RB W W') := fun W h => HNum.out W N1.1 hat1 h
      have hat2 : (nx s.data.toList N1.1 65535).1.1 ≤ s.size := nx_at hat1
      generalize nx s.data.toList N1.1 65535 = N2 at *
      have HC2 : Hid (∀ W, RS s RB N2.1 W → Calls Try.prog 61 #[.pointer (some ⟨RB, 0, none⟩)] W fun r W' => r = .returned (.int .i64 (nx s.data.toList N2.1 65535).2) ∧ RS s RB (nx s.data.toList N2.1 65535).1 W' ∧ Kn base RB RB W W') := fun W h => HNum.out W N2.1 hat2 h
      have hat3 : (nx s.data.toList N2.1 65535).1.1 ≤ s.size := nx_at hat2
      generalize nx s.data.toList N2.1 65535 = N3 at *
      have HC3 : Hid (∀ W, RS s RB N3.1 W → Calls Try.prog 61 #[.pointer (some ⟨RB, 0, none⟩)] W fun r W' => r = .returned (.int .i64 (nx s.data.toList N3.1 65535).2) ∧ RS s RB (nx s.data.toList N3.1 65535).1 W' ∧ Kn base RB RB W W') := fun W h => HNum.out W N3.1 hat3 h
      generalize nx s.data.toList N3.1 65535 = N4 at *
      rw [H1d.out] at HSg
      obtain ⟨t1, l1⟩ := N1
      obtain ⟨t2, l2⟩ := N2
      obtain ⟨t3, l3⟩ := N3
      obtain ⟨t4, l4⟩ := N4
      simp only at HC0 HC1 HC2 HC3 HSg
      have p1 : wr.cell? ⟨XB, 2, none⟩ = some vG := by rw [Lib.cell_of_heap hS.bx]; rfl
      obtain ⟨vo, vc, rfl, _, _⟩ := row_form hS.lg
      rw [hllg] at p1
      have HSx := hideg hS
      have HDx := hideg hD
      have HKx := hideg hK
      have hXr : XB < wr.heap.size := heap_ltg hS.bx
      clear hS hD hK hatg hat1 hat2 hat3 htm H1d
      go_wp2_with fail
      refine wp_region_back (S := fun w' => w'.cell? ⟨XB, 2, none⟩ = some (.slice vo m vc)) (by kernel_rfl) (by simp) (by kernel_rfl) (by kernel_rfl) p1 (fun hHeld => ?_)
      simp only [List.pop_toArray, List.dropLast, List.back!_toArray, List.getLast!]
      refine take_lit (i := 0) (v := ?_) rfl (by kernel_rfl) (by kernel_rfl) (by kernel_rfl) (fun _ _ _ h => h) (Or.inl ⟨by rfl, ?hy0⟩) (by assumption) ?_
      case hy0 => (intro w hSw; (try dsimp only at hSw); go_simp; try with_reducible rfl)
      try simp only [Act.put, List.setIfInBounds_toArray, List.set_cons_zero, List.set_cons_succ]
      refine take_lit (i := 1) (v := ?_) rfl (by kernel_rfl) (by kernel_rfl) (by kernel_rfl) (fun _ _ _ h => h) (Or.inl ⟨by rfl, ?hy1⟩) (by assumption) ?_
      case hy1 => (intro w hSw; (try dsimp only at hSw); go_simp; try with_reducible rfl)
      try simp only [Act.put, List.setIfInBounds_toArray, List.set_cons_zero, List.set_cons_succ]
      refine take_lit (i := 2) (v := ?_) rfl (by kernel_rfl) (by kernel_rfl) (by kernel_rfl) (fun _ _ _ h => h) (Or.inl ⟨by rfl, ?hy2⟩) (by assumption) ?_
      case hy2 => (intro w hSw; (try dsimp only at hSw); go_simp; try with_reducible rfl)
      try simp only [Act.put, List.setIfInBounds_toArray, List.set_cons_zero, List.set_cons_succ]
      refine take_lit (i := 4) (v := ?_) rfl (by kernel_rfl) (by kernel_rfl) (by kernel_rfl) (fun _ _ _ h => h) (Or.inl ⟨by rfl, ?hy4⟩) (by assumption) ?_
      case hy4 => (intro w hSw; (try dsimp only at hSw); go_simp; try with_reducible rfl)
      try simp only [Act.put, List.setIfInBounds_toArray, List.set_cons_zero, List.set_cons_succ]
      refine take_lit (i := 6) (v := ?_) rfl (by kernel_rfl) (by kernel_rfl) (by kernel_rfl) (fun _ _ _ h => h) (Or.inl ⟨by rfl, ?hy6⟩) (by assumption) ?_
      case hy6 => (intro w hSw; (try dsimp only at hSw); go_simp; try with_reducible rfl)
      try simp only [Act.put, List.setIfInBounds_toArray, List.set_cons_zero, List.set_cons_succ]
      refine take_lit (i := 8) (v := ?_) rfl (by kernel_rfl) (by kernel_rfl) (by kernel_rfl) (fun _ _ _ h => h) (Or.inl ⟨by rfl, ?hy8⟩) (by assumption) ?_
      case hy8 => (intro w hSw; (try dsimp only at hSw); go_simp; try with_reducible rfl)
      try simp only [Act.put, List.setIfInBounds_toArray, List.set_cons_zero, List.set_cons_succ]
      refine next_lit (i := 3) rfl (by kernel_rfl) (fun KK hK => ?_)
      go_simp
      have bd : Below wr.heap.size wr wr.drew := (Below.refl _ _).drew
      have hSd := HSx.out.below bd
      have hKd := HKx.out.below bd (by have := HKx.out.bel.size; omega) (by omega)
      refine (HC0.out _ (HDx.out.below bd (by omega))).mono ?_
      rintro r v1 ⟨rfl, hE1, hq1⟩
      have hS1 := hSd.kn hq1 hRB hRB (by omega)
      have hK1 := hKd.kn hq1
      have m1 : v1.cell? ⟨XB, 2, none⟩ = some (.slice vo m vc) := by rw [Lib.cell_of_heap hS1.bx, hllg]; rfl
      refine hK.out _ _ m1 (fun hHeld => ?_)
      clear hK KK
      try simp only [Act.put, List.setIfInBounds_toArray, List.set_cons_zero, List.set_cons_succ]
      refine next_lit (i := 5) rfl (by kernel_rfl) (fun KK hK => ?_)
      go_simp
      refine (HC1.out _ hE1).mono ?_
      rintro r v2 ⟨rfl, hE2, hq2⟩
      have hS2 := hS1.kn hq2 hRB hRB (by omega)
      have hK2 := hK1.kn hq2
      have m2 : v2.cell? ⟨XB, 2, none⟩ = some (.slice vo m vc) := by rw [Lib.cell_of_heap hS2.bx, hllg]; rfl
      refine hK.out _ _ m2 (fun hHeld => ?_)
      clear hK KK
      try simp only [Act.put, List.setIfInBounds_toArray, List.set_cons_zero, List.set_cons_succ]
      refine next_lit (i := 7) rfl (by kernel_rfl) (fun KK hK => ?_)
      go_simp
      refine (HC2.out _ hE2).mono ?_
      rintro r v3 ⟨rfl, hE3, hq3⟩
      have hS3 := hS2.kn hq3 hRB hRB (by omega)
      have hK3 := hK2.kn hq3
      have m3 : v3.cell? ⟨XB, 2, none⟩ = some (.slice vo m vc) := by rw [Lib.cell_of_heap hS3.bx, hllg]; rfl
      refine hK.out _ _ m3 (fun hHeld => ?_)
      clear hK KK
      try simp only [Act.put, List.setIfInBounds_toArray, List.set_cons_zero, List.set_cons_succ]
      refine next_lit (i := 9) rfl (by kernel_rfl) (fun KK hK => ?_)
      go_simp
      refine (HC3.out _ hE3).mono ?_
      rintro r v4 ⟨rfl, hE4, hq4⟩
      have hS4 := hS3.kn hq4 hRB hRB (by omega)
      have hK4 := hK3.kn hq4
      have m4 : v4.cell? ⟨XB, 2, none⟩ = some (.slice vo m vc) := by rw [Lib.cell_of_heap hS4.bx, hllg]; rfl
      refine hK.out _ _ m4 (fun hHeld => ?_)
      clear hK KK
      try simp only [Act.put, List.setIfInBounds_toArray, List.set_cons_zero, List.set_cons_succ]
      refine take_lit (i := 10) (v := ?_) rfl (by kernel_rfl) (by kernel_rfl) (by kernel_rfl) (fun _ _ _ h => h) (Or.inl ⟨by rfl, ?hy10⟩) (by assumption) ?_
      case hy10 => (intro w hSw; (try dsimp only at hSw); go_simp; try with_reducible rfl)
      try simp only [Act.put, List.setIfInBounds_toArray, List.set_cons_zero, List.set_cons_succ]
      clear hHeld
      refine next_lit (i := 11) rfl (by kernel_rfl) (fun KK hK => ?_)
      go_simp
      have hX4 : XB < v4.heap.size := heap_ltg hS4.bx
      have hwa : Below v4.heap.size v4 (v4.alloc (.cells #[.int .i64 l1, .int .i64 l2, .int .i64 l3, .int .i64 l4] 70)) := gal v4 _
      have n1 := (hwa.cell (p := ⟨XB, 2, none⟩) hX4).trans m4
      refine hK.out _ _ n1 (fun hHeld => ?_)
      clear hK KK hHeld
      try simp only [Act.put, List.setIfInBounds_toArray, List.set_cons_zero, List.set_cons_succ]
      refine next_lit (i := 12) rfl (by kernel_rfl) (fun KK hK => ?_)
      have hlg0 := ownsRow_below hS4.lg hwa
      rw [hllg] at hlg0
      refine step_append_lies _ (by rfl) _ _ _ (by rfl) (XB + 1) 70 il _ 4 32 Try.underlying66 hil hl0 hl1 hl2 rfl (by omega) (.slice vo m vc) m (enc4 (rdLg s.data.toList stM m).2) (by rfl) hlg0 ⟨v4.heap.size, 0, none⟩ 1 1 [.int .i64 l1, .int .i64 l2, .int .i64 l3, .int .i64 l4] (by rfl) (by rfl) (World.news_of_block (cs := #[.int .i64 l1, .int .i64 l2, .int .i64 l3, .int .i64 l4]) (t := 70) (fr := (0, 0)) (heap_alloc_new v4 _)) (by simp [Value.oneCell']) (by omega) (by unfold maxLen; omega) (by omega) (by simp; omega) (v4.heap.size + 1) (by simp) ?_
      intro gg cap1 w5 hown1 hgrow hat hltg
      have hown2 : w5.ownsRow (XB + 1) 70 4 (.slice (some ⟨gg, 0, none⟩) (m + 1) cap1) ((rdLg s.data.toList stM m).2.length + 1) (enc4 (rdLg s.data.toList stM m).2 ++ [.int .i64 l1, .int .i64 l2, .int .i64 l3, .int .i64 l4]) := by rw [hllg]; exact hown1
      have hgr2 := hgrow
      rw [← hllg] at hgr2
      obtain ⟨hbox5, hS5⟩ := hS4.push (l := (l1, l2, l3, l4)) hwa hgr2 hown2
      rw [hllg] at hbox5
      have x1 : w5.cell? ⟨XB, 2, none⟩ = some (.slice vo m vc) := by rw [Lib.cell_of_heap hbox5]; rfl
      have fz5 : w5.frozen? ⟨XB, 2, none⟩ = false := Lib.frozen_of_heap hbox5 2
      have hB5 : Below XB v4 (w5.setCell ⟨XB, 2, none⟩ (.slice (some ⟨gg, 0, none⟩) (m + 1) cap1)) := ((hwa.mono (by omega)).grown hgrow (Nat.le_trans (Nat.le_of_lt hX4) hwa.size) (fun j hj => by have := (hlg0.lt j hj).1; omega)).setCell (p := ⟨XB, 2, none⟩) (Nat.le_refl _) (.slice (some ⟨gg, 0, none⟩) (m + 1) cap1)
      have HR5 : Hid (RS s RB (rdLg s.data.toList stM (m + 1)).1 (w5.setCell ⟨XB, 2, none⟩ (.slice (some ⟨gg, 0, none⟩) (m + 1) cap1))) := by rw [HSg.out]; exact hE4.below hB5 (by omega)
      have HK5 : Hid (Ke base RB w (w5.setCell ⟨XB, 2, none⟩ (.slice (some ⟨gg, 0, none⟩) (m + 1) cap1))) := hK4.below hB5 (by omega) (by omega)
      have HS5 : Hid (LS w2 (w5.setCell ⟨XB, 2, none⟩ (.slice (some ⟨gg, 0, none⟩) (m + 1) cap1)) w.heap.size XB eA eB (.slice (some ⟨gg, 0, none⟩) (m + 1) cap1) (rdLg s.data.toList stM (m + 1)).2) := by rw [HSg.out]; exact hS5
      refine hK.out _ _ x1 (fun hHeld => ?_)
      clear hK KK hwa n1 m1 m2 m3 m4 hgrow hgr2 hown1 hown2 hbox5 hS5 hB5 hat hltg hlg0 hS1 hS2 hS3 hS4 hSd hKd hK1 hK2 hK3 hK4 hE1 hE2 hE3 hE4 hq1 hq2 hq3 hq4 bd HC0 HC1 HC2 HC3
      try simp only [Act.put, List.setIfInBounds_toArray, List.set_cons_zero, List.set_cons_succ]
      refine take_lit (i := 13) (v := ?_) rfl (by kernel_rfl) (by kernel_rfl) (by kernel_rfl) (fun _ _ _ h => h) (Or.inl ⟨by rfl, ?hy13⟩) (by assumption) ?_
      case hy13 => (intro w hSw; (try dsimp only at hSw); go_simp; try with_reducible rfl)
      try simp only [Act.put, List.setIfInBounds_toArray, List.set_cons_zero, List.set_cons_succ]
      refine wpAnyH_done (by kernel_rfl) ?_ _
      refine back_last (fun KK hK => ?_)
      clear hHeld
      go_simp
      refine hK.out _ _ ?_
      clear hK KK x1 fz5 p1
      go_wp2
      go_roundw
      case rel => exact ⟨m + 1, _, by omega, by go_num, HS5.out, HR5.out, HK5.out⟩
      case measure => simp [intOf]; omega
    · have hmn : ¬ ((m : Int) < (nm : Int)) := by omega
      obtain rfl : m = nm := by omega
      have hEe := HEe.out
      have hlgl := rdLg_len s.data.toList stM m
      generalize rdLg s.data.toList stM m = RG at *
      obtain ⟨stE, legs⟩ := RG
      simp only at hS hD hEe hlgl
      have HEe2 := hideg hEe
      have hq0 : wr.heap[w.heap.size]? = some (.cells #[.int .i64 0, .int .i64 0, .slice none 0 0] 68 (0, 0)) := (hS.ag _ (Nat.le_refl _) hwX).trans HR2.out
      obtain ⟨go, gc, rfl, _, _⟩ := row_form hS.lg
      have x0 : wr.cell? ⟨XB, 0, none⟩ = some (.int .i64 eA) := by rw [Lib.cell_of_heap hS.bx]; rfl
      have x1 : wr.cell? ⟨XB, 1, none⟩ = some (.int .i64 eB) := by rw [Lib.cell_of_heap hS.bx]; rfl
      have x2 : wr.cell? ⟨XB, 2, none⟩ = some (.slice go m gc) := by rw [Lib.cell_of_heap hS.bx, ← hlgl]; rfl
      have r0 : wr.cell? ⟨w.heap.size, 0, none⟩ = some (.int .i64 0) := by rw [Lib.cell_of_heap hq0]; rfl
      have r1 : wr.cell? ⟨w.heap.size, 1, none⟩ = some (.int .i64 0) := by rw [Lib.cell_of_heap hq0]; rfl
      have r2 : wr.cell? ⟨w.heap.size, 2, none⟩ = some (.slice none 0 0) := by rw [Lib.cell_of_heap hq0]; rfl
      have f0 : wr.frozen? ⟨w.heap.size, 0, none⟩ = false := Lib.frozen_of_heap hq0 0
      have f1 : wr.frozen? ⟨w.heap.size, 1, none⟩ = false := Lib.frozen_of_heap hq0 1
      have f2 : wr.frozen? ⟨w.heap.size, 2, none⟩ = false := Lib.frozen_of_heap hq0 2
      obtain ⟨wF, hwF⟩ : ∃ x, x = ((wr.setCell ⟨w.heap.size, 0, none⟩ (.int .i64 eA)).setCell ⟨w.heap.size, 1, none⟩ (.int .i64 eB)).setCell ⟨w.heap.size, 2, none⟩ (.slice go m gc) := ⟨_, rfl⟩
      have hBF : Below w.heap.size wr wF := by rw [hwF]; exact (((Below.refl _ _).setCell (p := ⟨w.heap.size, 0, none⟩) (Nat.le_refl _) _).setCell (p := ⟨w.heap.size, 1, none⟩) (Nat.le_refl _) _).setCell (p := ⟨w.heap.size, 2, none⟩) (Nat.le_refl _) _
      have hlF : wF.ownsRow w.heap.size 70 4 (.slice go m gc) m (enc4 legs) := by
        have hn : (Value.slice go legs.length gc).ownBlock ≠ some w.heap.size := fun e => by have := (hS.lg.lt _ e).1; omega
        have h := row_set (u := .slice go m gc) (j := 2) (row_set (u := .int .i64 eB) (j := 1) (row_set (u := .int .i64 eA) (j := 0) hS.lg hn) hn) hn
        rw [← hwF, hlgl] at h
        exact owns_low h (by omega)
      have HF := hideg (⟨hlF, hD.below hBF hRB, hK.below hBF (Nat.le_refl _) (by omega)⟩ : _ ∧ _ ∧ _)
      have HWF := hideg hwF.symm
      have HLg := hideg hlgl
      clear hS hD hK hEe HEe hq0 hBF hlF hwF hlgl
      go_wp2
      rw [HEe2.out]
      refine bodyPost_ret (v := .agg #[.int .i64 eA, .int .i64 eB, .slice go m gc]) (by simp [results, Try.results63, go_sem, r0, r1, r2]) rfl ?_
      rw [HWF.out]
      refine ⟨go, gc, by rw [HLg.out], ?_, HF.out.2.1, HF.out.2.2⟩
      simp only [HLg.out]
      exact HF.out.1

end Go.Proofs.Yteibdmfcclkjpad
