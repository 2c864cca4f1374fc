/-
  What writeLine of the program and row of the reference write.
-/
import Derived.Test.YtjjhhmlogddnkaeDoorBld
import Derived.Test.YtjjhhmlogddnkaeDoorGLib
import Derived.Test.YtjjhhmlogddnkaeDoorTbl
namespace Go.Proofs.YtjjhhmlogddnkaeDoor
open Go.RowKit

theorem flat_take (ns : List Int) (k : Nat) (hk : k < ns.length) : (ns.take (k + 1)).flatMap (fun n => 32 :: Lib.itoa n) = (ns.take k).flatMap (fun n => 32 :: Lib.itoa n) ++ (32 :: Lib.itoa ns[k]) := by
  rw [List.take_succ_eq_append_getElem hk, List.flatMap_append, List.flatMap_singleton]
theorem numLen {ns : List Int} (h : ∀ n ∈ ns, 0 ≤ n ∧ n ≤ 9999) (k : Nat) : ((ns.take k).flatMap (fun n => 32 :: Lib.itoa n)).length ≤ 5 * ns.length := by
  have := flat_len (fun n => 32 :: Lib.itoa n) 5 (ns.take k) (fun n hn => by
    have hn' := h n (List.mem_of_mem_take hn)
    have := itoa_len (n := n) hn'.1 3 (by omega)
    simp; omega)
  have hl : (ns.take k).length ≤ ns.length := by simp; omega
  have := Nat.mul_le_mul_left 5 hl
  omega

set_option maxHeartbeats 2000000 in
set_option maxRecDepth 100000 in
theorem writeLine_any (B b : Nat) (l : List UInt8) (word : ByteArray) (k0 cap : Nat) (fz : Nat × Nat) (ns : List Int) (w : World) (h : BdAt B b l w) (hT : TbI B w) (hk : w.heap[k0]? = some (.cells (ns.map (Value.int .i64)).toArray 3 fz)) (hkb : k0 ≠ b)
    (hl : l.length ≤ 100000) (hw : word.size ≤ 100) (hn : ns.length ≤ 4) (hns : ∀ n ∈ ns, 0 ≤ n ∧ n ≤ 9999) (hBw : B ≤ w.heap.size) :
    Calls Tryd.prog 8 #[.pointer (some ⟨b, 0, none⟩), .string word, .slice (some ⟨k0, 0, none⟩) ns.length cap] w fun e w' => e = .returned (.tuple #[]) ∧ BdAt B b (l ++ line word.data.toList ns) w' ∧ Wrote B b w w' := by
  have hsz : word.data.toList.length = word.size := by rw [Array.length_toList]; rfl
  have H32 : ∀ (l : List UInt8) (W : World), BdAt B b l W → l.length + 1 ≤ 140737488355328 → B ≤ W.heap.size → Calls Tryd.prog 19 #[.pointer (some ⟨b, 0, none⟩), .int .u8 32] W fun e w' => e = .returned .nilIface ∧ BdAt B b (l ++ [32]) w' ∧ Wrote B b W w' := fun l W h1 h2 h3 => WriteByte_any B b l 32 W h1 h2 h3
  have H10 : ∀ (l : List UInt8) (W : World), BdAt B b l W → l.length + 1 ≤ 140737488355328 → B ≤ W.heap.size → Calls Tryd.prog 19 #[.pointer (some ⟨b, 0, none⟩), .int .u8 10] W fun e w' => e = .returned .nilIface ∧ BdAt B b (l ++ [10]) w' ∧ Wrote B b W w' := fun l W h1 h2 h3 => WriteByte_any B b l 10 W h1 h2 h3
  have HT := hideg hT
  have HK := hideg hk
  have HNS := hideg hns
  have HLen := hideg (numLen hns)
  have H0 := hideg (WriteString_any B b l word w h (by omega) hBw)
  have hH := hideg (⟨H32, H10⟩ : _ ∧ _)
  have HSZ := hideg hsz
  clear hT hk hns h H32 H10 hsz
  go_enter Tryd.func8, Tryd.ntmps8
  go_wp2_with (go_at_call 18; refine H0.out.mono ?_; rintro e w1 ⟨rfl, hd1, hw1⟩)
  go_loopw [7, 13] (fun _ i wr => ∃ k : Nat, k ≤ ns.length ∧ i = .int .i64 k ∧ BdAt B b (l ++ word.data.toList ++ (ns.take k).flatMap (fun n => 32 :: Lib.itoa n)) wr ∧ Wrote B b w wr) (fun _ i _ => ns.length - (intOf i).toNat)
  case atStart => exact ⟨0, Nat.zero_le _, rfl, by simpa using hd1, hw1⟩
  case round =>
    obtain ⟨k, hkl, rfl, hd, hww⟩ := hrel
    have hl1 := HLen.out k
    have hBr : B ≤ wr.heap.size := Nat.le_trans hBw hww.size
    have hlen : (l ++ word.data.toList ++ (ns.take k).flatMap (fun n => 32 :: Lib.itoa n)).length ≤ 100120 := by
      rw [List.length_append, List.length_append, HSZ.out]; omega
    have HD := hideg hd
    have HW := hideg hww
    have HLN := hideg hlen
    clear hd hww hl1 hlen
    by_cases hlt : k < ns.length
    · have hheap := HW.out.cells HK.out hkb (by decide)
      have c0 : wr.cell? ⟨k0, k, none⟩ = some (.int .i64 ns[k]) := by rw [Lib.cell_of_heap hheap]; simp [hlt]
      have hn' := HNS.out ns[k] (List.getElem_mem hlt)
      have HF := hideg (flat_take ns k hlt)
      have HI := hideg (itoa_len (n := ns[k]) hn'.1 3 (by omega))
      clear hheap
      go_wp2_with (go_at_call 19; refine (hH.out.1 _ _ HD.out (by have := HLN.out; omega) hBr).mono ?_; rintro e w2 ⟨rfl, hd2, hw2⟩)
      have HD2 := hideg hd2
      have HW2 := hideg (HW.out.trans hw2)
      have hB2 : B ≤ w2.heap.size := Nat.le_trans hBr hw2.size
      have ht2 := (HT.out.below HW2.out.1).tab
      clear hd2 hw2 c0
      go_wp2_with (go_at_call 20; refine (itoa_any _ hn'.1 hn'.2 _ ht2).mono ?_; rintro e w3 ⟨rfl, hb3⟩)
      have HD3 := hideg (HD2.out.below hb3)
      have HW3 := hideg (HW2.out.trans (Wrote.of_below (b := b) hb3 hB2))
      have hB3 : B ≤ w3.heap.size := Nat.le_trans hB2 hb3.size
      clear hb3 ht2
      go_wp2_with (go_at_call 18; refine (WriteString_any B b _ _ _ HD3.out (by have := HLN.out; have := HI.out; rw [bsize, List.length_append, List.length_singleton]; omega) hB3).mono ?_; rintro e w4 ⟨rfl, hd4, hw4⟩)
      go_roundw
      case rel => exact ⟨k + 1, by omega, by go_num, by rw [HF.out]; simpa using hd4, HW3.out.trans hw4⟩
      case measure => simp [intOf]; omega
    · have hke : k = ns.length := by omega
      subst hke
      go_wp2_with (go_at_call 19; refine (hH.out.2 _ _ HD.out (by have := HLN.out; omega) hBr).mono ?_; rintro e w2 ⟨rfl, hd2, hw2⟩)
      go_end0
      exact ⟨rfl, by simpa [line] using hd2, HW.out.trans hw2⟩

end Go.Proofs.YtjjhhmlogddnkaeDoor
