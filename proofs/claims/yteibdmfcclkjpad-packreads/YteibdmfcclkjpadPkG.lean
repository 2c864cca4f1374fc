/-
  How the program reads a count, and the sum.
-/
import Derived.Test.YteibdmfcclkjpadPkF
namespace Go.Proofs.Yteibdmfcclkjpad
open Go.RowKit

theorem nx_same {s : List UInt8} {st : Nat × Int} {most : Int} (h : (nx s st 65535).2 ≤ most) : nx s st most = nx s st 65535 := by
  unfold nx at *
  have h65 := at2_lt s st.1
  split
  · split
    · rename_i h1 h2
      rw [if_pos h1, if_pos h2, if_neg (by omega)] at h
      simp only at h
      rw [if_neg (by omega), if_neg (by omega)]
    · rfl
  · rfl
theorem nx_more {s : List UInt8} {st : Nat × Int} {most : Int} (hm : 0 ≤ most) (h : most < (nx s st 65535).2) : nx s st most = (((nx s st 65535).1.1, 2), 0) := by
  unfold nx at *
  have h65 := at2_lt s st.1
  split
  · split
    · rename_i h1 h2
      rw [if_pos h1, if_pos h2, if_neg (by omega)] at h
      simp only at h
      rw [if_pos (by omega), if_neg (by omega)]
    · rename_i h1 h2
      rw [if_pos h1, if_neg h2] at h
      simp only at h; omega
  · rename_i h1
    rw [if_neg h1] at h
    simp only at h; omega

set_option maxHeartbeats 1000000 in
theorem pCnt_any (s : ByteArray) (w : World) (base RB : Nat) (st : Nat × Int) (most : Int) (hs : s.size ≤ 4611686018427387904) (hat : st.1 ≤ s.size) (hb : base ≤ RB) (hm : 0 ≤ most) (hR : RS s RB st w) :
    Calls Try.prog 62 #[.pointer (some ⟨RB, 0, none⟩), .int .i64 most] w fun r w' => r = .returned (.int .i64 (nx s.data.toList st most).2) ∧ RS s RB (nx s.data.toList st most).1 w' ∧ Kn base RB RB w w' := by
  have h1 := pNum_any s w base RB st hs hat hb hR
  clear hR
  by_cases hc : most < (nx s.data.toList st 65535).2
  · have hc2 : (nx s.data.toList st 65535).2 > most := hc
    have HN := hideg (nx_more hm hc)
    generalize nx s.data.toList st 65535 = N1 at *
    obtain ⟨⟨a, e⟩, n⟩ := N1
    simp only at h1 hc2
    go_enter Try.func62, Try.ntmps62
    go_wp2_with fail
    refine h1.mono ?_
    rintro r w1 ⟨rfl, hR1, hK1⟩
    have c2 := hR1.c2
    have f2 := hR1.f 2
    have HK := hideg (⟨hR1.set2 2, hK1.set hb⟩ : _ ∧ Kn base RB RB w (w1.setCell ⟨RB, 2, none⟩ (.int .i64 2)))
    simp only at c2
    clear h1 hR1 hK1 hc
    go_wp2
    go_ret
    rw [HN.out]
    exact ⟨rfl, HK.out⟩
  · have hc2 : ¬ ((nx s.data.toList st 65535).2 > most) := hc
    rw [nx_same (by omega)]
    generalize nx s.data.toList st 65535 = N1 at *
    obtain ⟨⟨a, e⟩, n⟩ := N1
    simp only at h1 hc2 hc ⊢
    go_enter Try.func62, Try.ntmps62
    go_wp2_with fail
    refine h1.mono ?_
    rintro r w1 ⟨rfl, hR1, hK1⟩
    clear h1
    go_wp2
    go_ret
    exact ⟨rfl, hR1, hK1⟩

/-- what is told where the sum is asked -/
def smS (s : List UInt8) (st : Nat × Int) : Nat × Int :=
  if st.2 = 0 then if st.1 + 4 ≤ s.length then (st.1 + 4, if (s.drop st.1).take 4 = sum4 (sumL (s.take st.1)) 4 then 0 else 5) else (st.1, 5) else st

theorem or_u32 (a b : Nat) (ha : a < 4294967296) (hb : b < 4294967296) : bits .or .u32 (a : Int) (b : Int) = ((a ||| b : Nat) : Int) := by
  have hx : a ||| b < 2 ^ 32 := Nat.or_lt_two_pow (by omega) (by omega)
  have e : ∀ c : Nat, c < 4294967296 → (BitVec.ofInt 32 (c : Int)).toNat = c := fun c hc => by
    rw [BitVec.ofInt_natCast, BitVec.toNat_ofNat]; exact Nat.mod_eq_of_lt (by omega)
  show IntKind.u32.wrap ((BitVec.ofInt 32 (a : Int) ||| BitVec.ofInt 32 (b : Int)).toNat : Int) = _
  rw [BitVec.toNat_or, e a ha, e b hb]
  exact wrap_u32 _ (by omega) (by omega)
theorem or_at (x y p : Nat) (hx : x < 2 ^ p) : x ||| y * 2 ^ p = x + y * 2 ^ p := by
  rw [Nat.or_comm, Nat.mul_comm y, ← Nat.two_pow_add_eq_or_of_lt hx, Nat.add_comm]
theorem four_same {l : List UInt8} {a sm : Nat} (h4 : a + 4 ≤ l.length) (hs : sm < 4294967296) : (l.drop a).take 4 = sum4 sm 4 ↔ (l.getD a 0).toNat + (l.getD (a + 1) 0).toNat * 256 + (l.getD (a + 2) 0).toNat * 65536 + (l.getD (a + 3) 0).toNat * 16777216 = sm := by
  rw [sum_same h4]
  have b0 := (l.getD a 0).toNat_lt
  have b1 := (l.getD (a + 1) 0).toNat_lt
  have b2 := (l.getD (a + 2) 0).toNat_lt
  have b3 := (l.getD (a + 3) 0).toNat_lt
  have ofn : ∀ (x : UInt8) (n : Nat), n < 256 → (x = UInt8.ofNat n ↔ x.toNat = n) := fun x n hn => by
    rw [← UInt8.toNat_inj, UInt8.toNat_ofNat', Nat.mod_eq_of_lt (by omega)]
  constructor
  · intro h
    have h0 := (ofn _ _ (by omega)).1 (h 0 (by omega))
    have h1 := (ofn _ _ (by omega)).1 (h 1 (by omega))
    have h2 := (ofn _ _ (by omega)).1 (h 2 (by omega))
    have h3 := (ofn _ _ (by omega)).1 (h 3 (by omega))
    simp only [Nat.add_zero] at h0
    omega
  · intro h j hj
    refine (ofn _ _ (by omega)).2 ?_
    have : j = 0 ∨ j = 1 ∨ j = 2 ∨ j = 3 := by omega
    rcases this with rfl | rfl | rfl | rfl
    · simp only [Nat.add_zero]; omega
    · omega
    · omega
    · omega

end Go.Proofs.Yteibdmfcclkjpad
