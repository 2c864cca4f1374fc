/-
  The law PackBack, walked.
-/
import Derived.Test.YteibdmfcclkjpadPkCon
import Derived.Test.YteibdmfcclkjpadPkBack
import Derived.Test.YteibdmfcclkjpadSame2
import Derived.Test.YteibdmfcclkjpadRRest
namespace Go.Proofs.Yteibdmfcclkjpad
open Go.RowKit

theorem enc_five : (encA ⟨5, [], []⟩).2 = 0 ∧ (encA ⟨5, [], []⟩).1.length = 10 ∧ (encA ⟨5, [], []⟩).1.take 6 = [0, 5, 0, 0, 0, 0] := by decide +kernel
theorem sum_nine : sumL [49, 50, 51, 52, 53, 54, 55, 56, 57] = 3421780262 := by decide +kernel

theorem bytes_app (a b : ByteArray) : (a ++ b).data.toList = a.data.toList ++ b.data.toList := by simp [ByteArray.data_append]
theorem coded_small {g : Gr} (h0 : gChk g = 0) : (coded g).length ≤ 4000 ∧ 0 < (coded g).length := by
  have hR := gChk_right h0
  have h1 := numsB_len hR g.edges.length
  rw [numsB_all] at h1
  have h2 := hR.lvs
  have h3 := hR.eds
  rw [coded_len, codeL_len]
  omega
theorem xor_u8 (a b : Nat) (ha : a < 256) (hb : b < 256) : bits .xor .u8 (a : Int) (b : Int) = ((a ^^^ b : Nat) : Int) := by
  have hx : a ^^^ b < 2 ^ 8 := Nat.xor_lt_two_pow (by omega) (by omega)
  have e : ∀ c : Nat, c < 256 → (BitVec.ofInt 8 (c : Int)).toNat = c := fun c hc => by
    rw [BitVec.ofInt_natCast, BitVec.toNat_ofNat]; exact Nat.mod_eq_of_lt (by omega)
  show IntKind.u8.wrap ((BitVec.ofInt 8 (a : Int) ^^^ BitVec.ofInt 8 (b : Int)).toNat : Int) = _
  rw [BitVec.toNat_xor, e a ha, e b hb]
  exact wrap_u8 _ (by omega) (by omega)
theorem bit_byte {x r : Nat} (hx : x < 256) (hr : r < 8) : ∃ y : UInt8, bits .xor .u8 (x : Int) (2 ^ r % 256) = (y.toNat : Int) ∧ y.toNat ≠ x := by
  have hp : 2 ^ r < 256 := Nat.lt_of_lt_of_le (Nat.pow_lt_pow_right (by omega) hr) (Nat.le_refl 256)
  have hp0 : 0 < 2 ^ r := Nat.pow_pos (by omega)
  have hb : ((2 : Int) ^ r % 256) = ((2 ^ r : Nat) : Int) := by
    rw [show ((2 : Int) ^ r) = ((2 ^ r : Nat) : Int) by simp]
    omega
  have hz : x ^^^ 2 ^ r < 2 ^ 8 := Nat.xor_lt_two_pow (by omega) (by omega)
  refine ⟨UInt8.ofNat (x ^^^ 2 ^ r), ?_, ?_⟩
  · rw [hb, xor_u8 x _ hx hp, UInt8.toNat_ofNat_of_lt' (by simpa using hz)]
  · rw [UInt8.toNat_ofNat_of_lt' (by simpa using hz)]
    intro h
    have h1 : x ^^^ (x ^^^ 2 ^ r) = x ^^^ x := by rw [h]
    rw [← Nat.xor_assoc, Nat.xor_self, Nat.zero_xor] at h1
    omega
end Go.Proofs.Yteibdmfcclkjpad
