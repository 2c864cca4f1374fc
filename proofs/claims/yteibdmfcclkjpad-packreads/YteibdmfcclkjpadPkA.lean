/-
  What Sum of the program answers.
-/
import Derived.Test.YteibdmfcclkjpadPkCon
import Derived.Test.YteibdmfcclkjpadPkCod
import Derived.Test.YteibdmfcclkjpadPkSum
namespace Go.Proofs.Yteibdmfcclkjpad
open Go.RowKit

theorem and_u32 (a b : Nat) (ha : a < 4294967296) (hb : b < 4294967296) : bits .and .u32 (a : Int) (b : Int) = ((a &&& b : Nat) : Int) := by
  have hx : a &&& b ≤ a := Nat.and_le_left
  have e : ∀ c : Nat, c < 4294967296 → (BitVec.ofInt 32 (c : Int)).toNat = c := fun c hc => by
    rw [BitVec.ofInt_natCast, BitVec.toNat_ofNat]; exact Nat.mod_eq_of_lt (by omega)
  show IntKind.u32.wrap ((BitVec.ofInt 32 (a : Int) &&& BitVec.ofInt 32 (b : Int)).toNat : Int) = _
  rw [BitVec.toNat_and, e a ha, e b hb]
  exact wrap_u32 _ (by omega) (by omega)
theorem xor_bit (a b : Nat) : (a ^^^ b) &&& 1 = if a % 2 = b % 2 then 0 else 1 := by
  rw [Nat.and_one_is_mod]
  have h := Nat.xor_mod_two_eq_one (a := a) (b := b)
  split <;> omega

theorem flip_u32 (c : Nat) (hc : c < 4294967296) : bits .xor .u32 IntKind.u32.max (c : Int) = 4294967295 - (c : Int) := by
  have hm : IntKind.u32.max = ((4294967295 : Nat) : Int) := by decide
  rw [hm, xor_u32 4294967295 c (by omega) hc]
  have h1 := congrArg BitVec.toNat (BitVec.allOnes_xor (x := BitVec.ofNat 32 c))
  rw [BitVec.toNat_xor, BitVec.toNat_allOnes, BitVec.toNat_not, BitVec.toNat_ofNat, Nat.mod_eq_of_lt (by omega)] at h1
  have h2 : 4294967295 ^^^ c = 4294967295 - c := by simpa using h1
  rw [h2]; omega

set_option maxHeartbeats 1000000 in
theorem pStep_any (c : Nat) (x : Nat) (w : World) (hc : c < 4294967296) (hx : x < 256) : Calls Try.prog 81 #[.int .u32 (c : Int), .int .u8 (x : Int)] w fun r w' => r = .returned (.int .u32 (crcBits x c 8 : Int)) ∧ w' = w := by
  go_enter Try.func81, Try.ntmps81
  go_wp2_with fail
  go_loopw [0, 1, 6] (fun a y j wq => ∃ m : Nat, m ≤ 8 ∧ j = .int .i64 (m : Int) ∧ a = .int .u32 (crcBits x c m : Int) ∧ y = .int .u8 ((x / 2 ^ m : Nat) : Int) ∧ wq = w) (fun _ _ j _ => 8 - (intOf j).toNat)
  case atStart => exact ⟨0, Nat.zero_le _, rfl, rfl, by simp, rfl⟩
  case round =>
    obtain ⟨m, hm, rfl, rfl, rfl, rfl⟩ := hrel
    have hd := crcBits_lt (x := x) hc m
    by_cases hm8 : m < 8
    · have hmi : (m : Int) < 8 := by omega
      have hmw : IntKind.i64.wrap ((m : Int) + 1) = (m : Int) + 1 := wrap_p _ (by omega) (by omega)
      have HS : Hid (crcBits x c (m + 1) = crcBit (crcBits x c m) (x / 2 ^ m % 2)) := rfl
      have HY : Hid (((x / 2 ^ m : Nat) : Int) / 2 = ((x / 2 ^ (m + 1) : Nat) : Int)) := by
        show _ = _
        rw [Nat.pow_succ, ← Nat.div_div_eq_div_mul]
        generalize x / 2 ^ m = d
        omega
      have hyl : x / 2 ^ m < 256 := Nat.lt_of_le_of_lt (Nat.div_le_self _ _) hx
      generalize crcBits x c m = d at *
      generalize x / 2 ^ m = y at *
      have hb : bits .and .u32 (bits .xor .u32 (d : Int) (y : Int)) 1 = ((if d % 2 = y % 2 then 0 else 1 : Nat) : Int) := by
        have hx : d ^^^ y < 2 ^ 32 := Nat.xor_lt_two_pow (by omega) (by omega)
        have := and_u32 (d ^^^ y) 1 (by omega) (by omega)
        rw [xor_u32 d y hd (by omega), ← xor_bit]
        exact this
      by_cases hq : d % 2 = y % 2
      · have e1 : (bits .and .u32 (bits .xor .u32 (d : Int) (y : Int)) 1 == 1) = false := by rw [hb, if_pos hq]; rfl
        have HS2 : Hid ((d : Int) / 2 = (crcBits x c (m + 1) : Int)) := by show _ = _; rw [HS.out]; unfold crcBit; rw [if_pos hq]; omega
        clear hb hq HS
        go_wp2
        go_roundw
        case rel => exact ⟨m + 1, by omega, by go_num, by rw [HS2.out], by rw [HY.out], by first | rfl | trivial⟩
        case measure => simp [intOf]; omega
      · have e1 : (bits .and .u32 (bits .xor .u32 (d : Int) (y : Int)) 1 == 1) = true := by rw [hb, if_neg hq]; rfl
        have HS2 : Hid (bits .xor .u32 ((d : Int) / 2) 3988292384 = (crcBits x c (m + 1) : Int)) := by
          show _ = _
          rw [HS.out]; unfold crcBit; rw [if_neg hq, show ((d : Int) / 2) = ((d / 2 : Nat) : Int) by omega]
          exact xor_u32 (d / 2) 3988292384 (by omega) (by omega)
        clear hb hq HS
        go_wp2
        go_roundw
        case rel => exact ⟨m + 1, by omega, by go_num, by rw [HS2.out], by rw [HY.out], by first | rfl | trivial⟩
        case measure => simp [intOf]; omega
    · obtain rfl : m = 8 := by omega
      have hmn : ¬ (((8 : Nat) : Int) < 8) := by omega
      go_wp2
      go_ret
      exact ⟨rfl, rfl⟩

set_option maxHeartbeats 1000000 in
theorem pSumE_any (s : ByteArray) (w : World) (hs : s.size ≤ 4611686018427387904) : Calls Try.prog 65 #[.string s] w fun r w' => r = .returned (.int .u32 (sumL s.data.toList : Int)) ∧ w' = w := by
  have HL : Hid (s.data.toList.length = s.size) := rfl
  go_enter Try.func65, Try.ntmps65
  go_wp2_with fail
  go_loopw [3, 7] (fun a i wr => ∃ k : Nat, k ≤ s.size ∧ i = .int .i64 (k : Int) ∧ a = .int .u32 (crcL (s.data.toList.take k) : Int) ∧ wr = w) (fun _ i _ => s.size - (intOf i).toNat)
  case atStart => exact ⟨0, Nat.zero_le _, rfl, rfl, rfl⟩
  case round =>
    obtain ⟨k, hk, rfl, rfl, rfl⟩ := hrel
    have hc := crcL_lt (s.data.toList.take k)
    by_cases hlt : k < s.size
    · have hki : (k : Int) < (s.size : Int) := by omega
      have hkw : IntKind.i64.wrap ((k : Int) + 1) = (k : Int) + 1 := wrap_p _ (by omega) (by omega)
      have HT := hideg (crcL_take (l := s.data.toList) (k := k) hlt)
      have hx : s[k].toNat < 256 := s[k].toNat_lt
      have hxe : s.data.toList[k] = s[k] := rfl
      rw [hxe] at HT
      generalize crcL (s.data.toList.take k) = c at *
      have h1 := pStep_any c s[k].toNat wr hc hx
      have HT2 : Hid (crcBits s[k].toNat c 8 = crcL (s.data.toList.take (k + 1))) := HT.out.symm
      clear hxe HT
      go_wp2_with fail
      refine h1.mono ?_
      rintro r w' ⟨rfl, rfl⟩
      clear h1
      go_wp2
      go_roundw
      case rel => exact ⟨k + 1, by omega, by go_num, by rw [HT2.out], by first | rfl | trivial⟩
      case measure => simp [intOf]; omega
    · have hkn : ¬ ((k : Int) < (s.size : Int)) := by omega
      have HE : Hid (4294967295 - (crcL (s.data.toList.take k) : Int) = (sumL s.data.toList : Int)) := by
        show _ = _
        have : s.data.toList.take k = s.data.toList := List.take_of_length_le (by rw [HL.out]; omega)
        rw [this] at hc ⊢
        unfold sumL; omega
      generalize crcL (s.data.toList.take k) = c at *
      have hu := flip_u32 c hc
      go_wp2
      go_ret
      exact ⟨by rw [HE.out]; rfl, rfl⟩

theorem pSum_any : SumOk := fun s w hs => (pSumE_any s w hs).mono fun _ _ h => ⟨h.1, by rw [h.2]; exact Below.refl _ _⟩

end Go.Proofs.Yteibdmfcclkjpad
