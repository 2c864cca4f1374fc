/-
  What Sum of the reference answers.
-/
import Derived.Test.YteibdmfcclkjpahPk1
import Derived.Test.YteibdmfcclkjpahGBase
namespace Go.Proofs.Yteibdmfcclkjpah
open Go.RowKit

theorem wrap_p (n : Int) (h0 : -9223372036854775808 ≤ n) (h1 : n < 9223372036854775808) : IntKind.i64.wrap n = n := by simp [IntKind.wrap, IntKind.bits, IntKind.signed]; omega
theorem wrap_u32 (n : Int) (h0 : 0 ≤ n) (h1 : n < 4294967296) : IntKind.u32.wrap n = n := by simp [IntKind.wrap, IntKind.bits, IntKind.signed]; omega
theorem xor_u32 (a b : Nat) (ha : a < 4294967296) (hb : b < 4294967296) : bits .xor .u32 (a : Int) (b : Int) = ((a ^^^ b : Nat) : Int) := by
  have hx : a ^^^ b < 2 ^ 32 := Nat.xor_lt_two_pow (by omega) (by omega)
  have e : ∀ c : Nat, c < 4294967296 → (BitVec.ofInt 32 (c : Int)).toNat = c := fun c hc => by
    rw [BitVec.ofInt_natCast, BitVec.toNat_ofNat]; exact Nat.mod_eq_of_lt (by omega)
  show IntKind.u32.wrap ((BitVec.ofInt 32 (a : Int) ^^^ BitVec.ofInt 32 (b : Int)).toNat : Int) = _
  rw [BitVec.toNat_xor, e a ha, e b hb]
  exact wrap_u32 _ (by omega) (by omega)
theorem bit_at (x m : Nat) (hx : x < 256) : ((x : Int) % 4294967296 / 2 ^ m).tmod 2 = ((x / 2 ^ m % 2 : Nat) : Int) := by
  have h1 : (x : Int) % 4294967296 = (x : Int) := by omega
  have h2 : (x : Int) / 2 ^ m = ((x / 2 ^ m : Nat) : Int) := by simp
  rw [h1, h2]
  generalize x / 2 ^ m = y
  rw [Int.tmod_eq_emod_of_nonneg (Int.natCast_nonneg y)]
  omega

theorem bit_at2 (x m : Nat) : ((x : Int) / 2 ^ m).tmod 2 = ((x / 2 ^ m % 2 : Nat) : Int) := by
  have h2 : (x : Int) / 2 ^ m = ((x / 2 ^ m : Nat) : Int) := by simp
  rw [h2]
  generalize x / 2 ^ m = y
  rw [Int.tmod_eq_emod_of_nonneg (Int.natCast_nonneg y)]
  omega
theorem nat_ne {a b : Nat} (h : a = b) : ((a : Int) != (b : Int)) = false := by rw [h]; simp
theorem nat_ne2 {a b : Nat} (h : ¬ a = b) : ((a : Int) != (b : Int)) = true := bne_iff_ne.2 fun e => h (by omega)

end Go.Proofs.Yteibdmfcclkjpah
