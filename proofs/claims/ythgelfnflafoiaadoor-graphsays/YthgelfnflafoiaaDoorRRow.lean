/-
  What row of the reference tells.
-/
import Derived.Test.YthgelfnflafoiaaDoorGPrint
namespace Go.Proofs.YthgelfnflafoiaaDoor
open Go.RowKit

theorem mkapp (a b : List UInt8) : (⟨a.toArray⟩ ++ ⟨b.toArray⟩ : ByteArray) = ⟨(a ++ b).toArray⟩ := by
  apply ByteArray.ext
  simp
theorem mkapp3 (a b c : List UInt8) : (⟨a.toArray⟩ ++ (⟨b.toArray⟩ ++ ⟨c.toArray⟩) : ByteArray) = ⟨(a ++ (b ++ c)).toArray⟩ := by rw [mkapp, mkapp]

set_option maxHeartbeats 2000000 in
set_option maxRecDepth 100000 in
theorem row_any (word : ByteArray) (ao : Option Addr) (cap : Nat) (ns : List Int) (w : World) (hz : ZsAt w ao ns) (hT : Tab w) (hw : word.size ≤ 100) (hn : ns.length ≤ 4) (hns : ∀ n ∈ ns, 0 ≤ n ∧ n ≤ 9999) :
    Calls Tryd.prog 17 #[.string word, .slice ao ns.length cap] w fun e w' => e = .returned (.string ⟨(line word.data.toList ns).toArray⟩) ∧ Below w.heap.size w w' := by
  have HT := hideg hT.low
  have HNS := hideg hns
  have HLen := hideg (numLen hns)
  have hsz : word.data.toList.length = word.size := by rw [Array.length_toList]; rfl
  have HSZ := hideg hsz
  clear hT hns hsz
  go_enter Tryd.func17, Tryd.ntmps17
  go_wp2
  go_loopw [0, 5] (fun s i wr => ∃ k : Nat, k ≤ ns.length ∧ i = .int .i64 k ∧ s = .string ⟨(word.data.toList ++ (ns.take k).flatMap (fun n => 32 :: Lib.itoa n)).toArray⟩ ∧ Below w.heap.size w wr) (fun _ i _ => ns.length - (intOf i).toNat)
  case atStart => exact ⟨0, Nat.zero_le _, rfl, by simp, Below.refl _ _⟩
  case round =>
    obtain ⟨k, hk, rfl, rfl, hb⟩ := hrel
    have hl1 := HLen.out k
    have hlen : (word.data.toList ++ (ns.take k).flatMap (fun n => 32 :: Lib.itoa n)).length ≤ 120 := by
      rw [List.length_append, HSZ.out]; omega
    by_cases hlt : k < ns.length
    · rcases hz.below hb with h0 | ⟨b, off, rfl, hbr, hc⟩
      · subst h0; simp at hlt
      have c0 := hc k hlt
      have hg : ns.getD k 0 = ns[k] := by simp [List.getD_eq_getElem?_getD, List.getElem?_eq_getElem hlt]
      rw [hg] at c0
      have hn' := HNS.out ns[k] (List.getElem_mem hlt)
      have HF := hideg (flat_take ns k hlt)
      have HI := hideg (itoa_len (n := ns[k]) hn'.1 3 (by omega))
      have ht := (HT.out.below hb).tab
      have HW : Hid (∀ S, S = word.data.toList ++ (ns.take k).flatMap (fun n => 32 :: Lib.itoa n) → (⟨S.toArray⟩ ++ (⟨#[32]⟩ ++ ⟨(Lib.itoa ns[k]).toArray⟩) : ByteArray) = ⟨(word.data.toList ++ (ns.take (k + 1)).flatMap (fun n => 32 :: Lib.itoa n)).toArray⟩) := by
        intro S hS
        have := mkapp3 S [32] (Lib.itoa ns[k])
        rw [this, hS, HF.out]; simp
      generalize hS : word.data.toList ++ (ns.take k).flatMap (fun n => 32 :: Lib.itoa n) = S at *
      have HS := hideg (HW.out S rfl)
      have hi := HI.out
      have b1 : ¬ (9223372036854775807 < S.length + (1 + (Lib.itoa ns[k]).length)) := by omega
      have b2 : ¬ (9223372036854775807 < 1 + (Lib.itoa ns[k]).length) := by omega
      clear hc hg hz hS HF HW hl1
      go_wp2_with fail
      refine (itoa_any _ hn'.1 hn'.2 _ ht).mono ?_
      rintro e w3 ⟨rfl, hb3⟩
      go_wp2
      go_roundw
      case rel => exact ⟨k + 1, by omega, by go_num, by rw [HS.out], ptg hb hb3⟩
      case measure => simp [intOf]; omega
    · have hke : k = ns.length := by omega
      subst hke
      rw [List.take_length] at *
      have HS : Hid ((⟨(word.data.toList ++ ns.flatMap (fun n => 32 :: Lib.itoa n)).toArray⟩ ++ ⟨#[10]⟩ : ByteArray) = ⟨(line word.data.toList ns).toArray⟩) := mkapp _ [10]
      generalize word.data.toList ++ ns.flatMap (fun n => 32 :: Lib.itoa n) = S at *
      have b1 : ¬ (9223372036854775807 < S.length + 1) := by omega
      go_wp2
      go_ret
      exact ⟨by rw [← HS.out]; rfl, hb⟩

end Go.Proofs.YthgelfnflafoiaaDoor
