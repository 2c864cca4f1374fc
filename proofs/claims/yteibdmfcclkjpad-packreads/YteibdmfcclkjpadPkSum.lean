/-
  What Sum of the reference answers.
-/
import Derived.Test.YteibdmfcclkjpadPk1
import Derived.Test.YteibdmfcclkjpadGBase
namespace Go.Proofs.Yteibdmfcclkjpad
open Go.RowKit

theorem wrap_p (n : Int) (h0 : -9223372036854775808 ≤ n) (h1 : n < 9223372036854775808) : IntKind.i64.wrap n = n := by simp [IntKind.wrap, IntKind.bits, IntKind.signed]; omega
theorem wrap_u32 (n : Int) (h0 : 0 ≤ n) (h1 : n < 4294967296) : IntKind.u32.wrap n = n := by simp [IntKind.wrap, IntKind.bits, IntKind.signed]; omega
theorem xor_u32 (a b : Nat) (ha : a < 4294967296) (hb : b < 4294967296) : bits .xor .u32 (a : Int) (b : Int) = ((a ^^^ b : Nat) : Int) := by
  have hx : a ^^^ b < 2 ^ 32 := Nat.xor_lt_two_pow (by omega) (by omega)
  have e : ∀ c : Nat, c < 4294967296 → (BitVec.ofInt 32 (c : Int)).toNat = c := fun c hc => by
    rw [BitVec.ofInt_natCast, BitVec.toNat_ofNat]; exact Nat.mod_eq_of_lt (by omega)
  show IntKind.u32.wrap ((BitVec.ofInt 32 (a : Int) ^^^ BitVec.ofInt 32 (b : Int)).toNat : Int) = _
  rw [BitVec.toNat_xor, e a ha, e b hb]
  exact wrap_u32 _ (by omega) (by omega)
theorem bit_at (x m : Nat) (hx : x < 256) : ((x : Int) % 4294967296 / 2 ^ m).tmod 2 = ((x / 2 ^ m % 2 : Nat) : Int) := by
  have h1 : (x : Int) % 4294967296 = (x : Int) := by omega
  have h2 : (x : Int) / 2 ^ m = ((x / 2 ^ m : Nat) : Int) := by simp
  rw [h1, h2]
  generalize x / 2 ^ m = y
  rw [Int.tmod_eq_emod_of_nonneg (Int.natCast_nonneg y)]
  omega

theorem bit_at2 (x m : Nat) : ((x : Int) / 2 ^ m).tmod 2 = ((x / 2 ^ m % 2 : Nat) : Int) := by
  have h2 : (x : Int) / 2 ^ m = ((x / 2 ^ m : Nat) : Int) := by simp
  rw [h2]
  generalize x / 2 ^ m = y
  rw [Int.tmod_eq_emod_of_nonneg (Int.natCast_nonneg y)]
  omega
theorem nat_ne {a b : Nat} (h : a = b) : ((a : Int) != (b : Int)) = false := by rw [h]; simp
theorem nat_ne2 {a b : Nat} (h : ¬ a = b) : ((a : Int) != (b : Int)) = true := bne_iff_ne.2 fun e => h (by omega)

set_option maxHeartbeats 1000000 in
theorem RSum32_any (s : ByteArray) (w : World) (hs : s.size ≤ 9223372036854775806) : Calls Try.prog 35 #[.string s] w fun r w' => r = .returned (.int .u32 (sumL s.data.toList : Int)) ∧ w' = w := by
  have HL : Hid (s.data.toList.length = s.size) := rfl
  go_enter Try.func35, Try.ntmps35
  go_wp2_with fail
  go_loopw [3, 4] (fun a i wr => ∃ k : Nat, k ≤ s.size ∧ i = .int .i64 (k : Int) ∧ a = .int .u32 (crcL (s.data.toList.take k) : Int) ∧ wr = w) (fun _ i _ => s.size - (intOf i).toNat)
  case atStart => exact ⟨0, Nat.zero_le _, rfl, rfl, rfl⟩
  case round =>
    obtain ⟨k, hk, rfl, rfl, rfl⟩ := hrel
    have hc := crcL_lt (s.data.toList.take k)
    by_cases hlt : k < s.size
    · have hki : (k : Int) < (s.size : Int) := by omega
      have hkw : IntKind.i64.wrap ((k : Int) + 1) = (k : Int) + 1 := wrap_p _ (by omega) (by omega)
      have HT := hideg (crcL_take (l := s.data.toList) (k := k) hlt)
      have hx : s[k].toNat < 256 := s[k].toNat_lt
      have hxe : s.data.toList[k] = s[k] := rfl
      rw [hxe] at HT
      generalize crcL (s.data.toList.take k) = c at *
      clear hxe
      go_wp2_with fail
      go_loopw [3, 5] (fun a j wq => ∃ m : Nat, m ≤ 8 ∧ j = .int .i64 (m : Int) ∧ a = .int .u32 (crcBits s[k].toNat c m : Int) ∧ wq = wr) (fun _ j _ => 8 - (intOf j).toNat)
      case atStart => exact ⟨0, Nat.zero_le _, rfl, rfl, rfl⟩
      case round =>
        obtain ⟨m, hm, rfl, rfl, rfl⟩ := hrel
        have hd := crcBits_lt (x := s[k].toNat) hc m
        by_cases hm8 : m < 8
        · have hmi : (m : Int) < 8 := by omega
          have hmw : IntKind.i64.wrap ((m : Int) + 1) = (m : Int) + 1 := wrap_p _ (by omega) (by omega)
          have HS : Hid (crcBits s[k].toNat c (m + 1) = crcBit (crcBits s[k].toNat c m) (s[k].toNat / 2 ^ m % 2)) := rfl
          generalize crcBits s[k].toNat c m = d at *
          have hb := bit_at s[k].toNat m hx
          have hb2 := bit_at2 s[k].toNat m
          have hd2 : (d : Int) % 2 = ((d % 2 : Nat) : Int) := by omega
          by_cases hq : d % 2 = s[k].toNat / 2 ^ m % 2
          · have e1 : ((d : Int) % 2 != ((s[k].toNat : Int) % 4294967296 / 2 ^ m).tmod 2) = false := by rw [hb, hd2]; exact nat_ne hq
            have e2 : ((d : Int) % 2 != ((s[k].toNat : Int) / 2 ^ m).tmod 2) = false := by rw [hb2, hd2]; exact nat_ne hq
            have HS2 : Hid ((d : Int) / 2 = (crcBits s[k].toNat c (m + 1) : Int)) := by show _ = _; rw [HS.out]; unfold crcBit; rw [if_pos hq]; omega
            clear hb hb2 hd2 HS hq
            go_wp2
            go_roundw
            case rel => exact ⟨m + 1, by omega, by go_num, by rw [HS2.out], by first | rfl | trivial⟩
            case measure => simp [intOf]; omega
          · have e1 : ((d : Int) % 2 != ((s[k].toNat : Int) % 4294967296 / 2 ^ m).tmod 2) = true := by rw [hb, hd2]; exact nat_ne2 hq
            have e2 : ((d : Int) % 2 != ((s[k].toNat : Int) / 2 ^ m).tmod 2) = true := by rw [hb2, hd2]; exact nat_ne2 hq
            have HS2 : Hid (bits .xor .u32 ((d : Int) / 2) 3988292384 = (crcBits s[k].toNat c (m + 1) : Int)) := by
              show _ = _
              rw [HS.out]; unfold crcBit; rw [if_neg hq, show ((d : Int) / 2) = ((d / 2 : Nat) : Int) by omega]
              exact xor_u32 (d / 2) 3988292384 (by omega) (by omega)
            clear hb hb2 hd2 HS hq
            go_wp2
            go_roundw
            case rel => exact ⟨m + 1, by omega, by go_num, by rw [HS2.out], by first | rfl | trivial⟩
            case measure => simp [intOf]; omega
        · obtain rfl : m = 8 := by omega
          have hmn : ¬ (((8 : Nat) : Int) < 8) := by omega
          have HR : Hid (crcBits s[k].toNat c 8 = crcL (s.data.toList.take (k + 1))) := HT.out.symm
          clear HT
          go_wp2
          go_roundw
          case rel => exact ⟨k + 1, by omega, by go_num, by rw [HR.out], by first | rfl | trivial⟩
          case measure => simp [intOf]; omega
    · have hkn : ¬ ((k : Int) < (s.size : Int)) := by omega
      have hwz : IntKind.u32.wrap (4294967295 - (crcL (s.data.toList.take k) : Int)) = 4294967295 - (crcL (s.data.toList.take k) : Int) := wrap_u32 _ (by omega) (by omega)
      have HE : Hid (4294967295 - (crcL (s.data.toList.take k) : Int) = (sumL s.data.toList : Int)) := by
        show _ = _
        have : s.data.toList.take k = s.data.toList := List.take_of_length_le (by rw [HL.out]; omega)
        rw [this] at hc ⊢
        unfold sumL; omega
      generalize crcL (s.data.toList.take k) = c at *
      go_wp2
      go_ret
      exact ⟨by rw [HE.out]; rfl, rfl⟩

end Go.Proofs.Yteibdmfcclkjpad
