/-
  The walk of the law IvlLaws: it returns true, and nothing that was there is changed.
-/
import Derived.Test.YtianoalbcaphiadKeep
import Derived.Test.YtianoalbcaphiadEq
import Derived.Test.YtianoalbcaphiadCount
namespace Go.Proofs.Ytianoalbcaphiad
open Go.RowKit

theorem bt {a b c : World} (h1 : Below a.heap.size a b) (h2 : Below b.heap.size b c) : Below a.heap.size a c := h1.trans (h2.mono h1.size)
theorem ba (w : World) (o : Obj) : Below w.heap.size w (w.alloc o) := (Below.refl _ _).alloc (Nat.le_refl _) o

/-- lists that lie in memory -/
def Live (w : World) (L : List (Option Addr × List (Int × Int))) : Prop := ∀ p ∈ L, IvAt w p.1 p.2
theorem Live.below {w w' : World} {L : List (Option Addr × List (Int × Int))} (h : Live w L) (hb : Below w.heap.size w w') : Live w' L := fun p hp => (h p hp).below hb
theorem Live.cons {w : World} {L : List (Option Addr × List (Int × Int))} {ao : Option Addr} {l : List (Int × Int)} (h : Live w L) (hl : IvAt w ao l) : Live w ((ao, l) :: L) := by
  intro p hp
  rw [List.mem_cons] at hp
  rcases hp with rfl | hp
  · exact hl
  · exact h p hp
theorem Live.tail {w : World} {L : List (Option Addr × List (Int × Int))} {p : Option Addr × List (Int × Int)} (h : Live w (p :: L)) : Live w L := fun q hq => h q (List.mem_cons_of_mem _ hq)

theorem comb_eq {want : Bool → Bool → Bool} {a b T : List (Int × Int)} {na nb : Nat} {n : Int} {r : List (Int × Int)} (ha : Good na a) (hb : Good nb b) (h1 : na ≤ 200) (h2 : nb ≤ 200) (hT : Canon T) (lT : T.length ≤ 200) (hp : ∀ t, has T t = want (has a t) (has b t)) (h : CombIs want a b n r) : n = 0 ∧ r = T := by
  rcases h with ⟨h, _⟩ | ⟨_, h, _⟩ | ⟨_, _, s, hs, h⟩
  · exact absurd (ha.chk h1) h
  · exact absurd (hb.chk h2) h
  · have e := setIs_unique hs hT hp
    subst e
    rcases h with ⟨h, _⟩ | ⟨_, hn, hr⟩
    · omega
    · exact ⟨hn, hr⟩

theorem Size_ok (ao : Option Addr) (cap : Nat) (l : List (Int × Int)) (w : World) (hl : IvAt w ao l) (hc : chk l = 0) :
    Calls Try.prog 14 #[.slice ao l.length cap] w fun e w' => e = .returned (.tuple #[.int .i64 (size l), .int .i64 0]) ∧ Below w.heap.size w w' := by
  have h := Size_any ao cap l w hl
  rw [if_pos hc, hc] at h
  exact h

theorem ivAt_two (w : World) (B : Nat) (t : TypeId) (p q : Int × Int) (hB : B = w.heap.size) : IvAt (w.alloc (.cells #[.int .i64 p.1, .int .i64 p.2, .int .i64 q.1, .int .i64 q.2] t)) (some ⟨B, 0, none⟩) [p, q] := by
  subst hB
  refine .inr ⟨w.heap.size, 0, rfl, by simp, fun j hj => ?_⟩
  rcases (show j = 0 ∨ j = 1 by simp at hj; omega) with rfl | rfl
  · exact ⟨by simp, by simp⟩
  · exact ⟨by simp, by simp⟩

theorem norm_first {n : Int} {r : List (Int × Int)} (h : NormRes [(5, 9), (1, 5)] n r) : n = 0 ∧ r = [(1, 9)] := by
  have hc : cbs [(5, 9), (1, 5)] = 0 := by
    refine cbs_ok (by simp) fun i hi => ?_
    rcases (show i = 0 ∨ i = 1 by simp at hi; omega) with rfl | rfl
    · simp [nearB]
    · simp [nearB]
  rcases h with ⟨h, _⟩ | ⟨_, hn, hN⟩
  · exact absurd hc h
  · refine ⟨hn, canon_unique hN.canon (by simp [Canon, flat]) fun t => ?_⟩
    rw [hN.pts, Bool.eq_iff_iff]
    simp only [has_cons, has_nil, Bool.or_eq_true, Bool.and_eq_true, decide_eq_true_eq, Bool.or_false]
    omega

theorem size_bd {n : Nat} {l : List (Int × Int)} (h : Good n l) (hn : n ≤ 200) : -400000000000 ≤ size l ∧ size l ≤ 400000000000 := by
  have := size_take_bd (near_of_flat h.near) l.length (Nat.le_refl _)
  rw [List.take_length] at this
  have := h.len
  omega

set_option maxRecDepth 100000 in
set_option maxHeartbeats 16000000 in
theorem ivlLaws_walk (xo yo zo : Option Addr) (xc yc zc : Nat) (x y z : List (Int × Int)) (w : World) (hx : IvAt w xo x) (hy : IvAt w yo y) (hz : IvAt w zo z) (hxc : x.length ≤ xc) (hyc : y.length ≤ yc) (hzc : z.length ≤ zc) (hxm : xc ≤ 9223372036854775807) (hym : yc ≤ 9223372036854775807) (hzm : zc ≤ 9223372036854775807) :
    Calls Try.prog 3 #[.slice xo x.length xc, .slice yo y.length yc, .slice zo z.length zc] w fun e w' => e = .returned (.bool true) ∧ Below w.heap.size w w' := by
  have HX : Hid (IvAt w xo x) := hx
  have HY : Hid (IvAt w yo y) := hy
  have HZ : Hid (IvAt w zo z) := hz
  clear hx hy hz
  go_enter Try.func3, Try.ntmps3
  go_wp2_with fail
  refine (Norm_any _ _ [(5, 9), (1, 5)] _ (ivAt_two _ _ _ _ _ (by simp))).mono ?_
  rintro e w1 ⟨n, r, hC, lo, lc, rfl, hl1, hb1⟩
  obtain ⟨rfl, rfl⟩ := norm_first hC
  have G1 : Hid (Below w.heap.size w w1) := bt (ba _ _) hb1
  clear hb1 hC
  go_wp2_with fail
  refine (Equal_any lo _ lc _ [(1, 9)] [(1, 9)] _ (hl1.below (ba _ _)) (ivAt_one _ _ _ _ (by simp)) (by simp)).mono ?_
  rintro e w2 ⟨rfl, hb2⟩
  have G2 : Hid (Below w.heap.size w w2) := bt G1.out (bt (ba _ _) hb2)
  clear hb2 G1 hl1
  rw [show decide ([(1, 9)] = [((1 : Int), (9 : Int))]) = true from by simp]
  go_wp2_with fail
  refine (made_any xo xc x _ ((Hid.out HX).below (Hid.out G2)) hxc hxm).mono ?_
  rintro e w3 ⟨oA, cA, A, rfl, hM, hI, hb⟩
  have G3 : Hid (Below w.heap.size w w3) := bt (Hid.out G2) hb
  have QA : Hid (Good 60 A) := made_good hM
  have L3 : Hid (Live w3 [(oA, A)]) := fun p hp => by rw [List.mem_singleton] at hp; subst hp; exact hI
  clear hM hI hb G2
  go_wp2_with fail
  refine (made_any yo yc y _ ((Hid.out HY).below (Hid.out G3)) hyc hym).mono ?_
  rintro e w4 ⟨oB, cB, B, rfl, hM, hI, hb⟩
  have G4 : Hid (Below w.heap.size w w4) := bt (Hid.out G3) hb
  have QB : Hid (Good 60 B) := made_good hM
  have L4 : Hid (Live w4 [(oB, B), (oA, A)]) := ((Hid.out L3).below hb).cons hI
  clear hM hI hb G3 L3
  go_wp2_with fail
  refine (made_any zo zc z _ ((Hid.out HZ).below (Hid.out G4)) hzc hzm).mono ?_
  rintro e w5 ⟨oC, cC, C, rfl, hM, hI, hb⟩
  have G5 : Hid (Below w.heap.size w w5) := bt (Hid.out G4) hb
  have QC : Hid (Good 60 C) := made_good hM
  have L5 : Hid (Live w5 [(oC, C), (oB, B), (oA, A)]) := ((Hid.out L4).below hb).cons hI
  clear hM hI hb G4 L4
  go_wp2_with fail
  refine (Union_any oA oB cA cB A B _ ((Hid.out L5) (oA, A) (by simp)) ((Hid.out L5) (oB, B) (by simp))).mono ?_
  rintro e w6 ⟨mU, U, hC, oU, cU, rfl, hI, hb⟩
  obtain ⟨rfl, hS, hG⟩ := comb_ok (Hid.out QA) (Hid.out QB) (by omega) (by omega) (by omega) hC
  have SU : Hid (SetIs wOr A B U) := hS
  have QU : Hid (Good 120 U) := hG
  clear hS hG
  have G6 : Hid (Below w.heap.size w w6) := bt (Hid.out G5) hb
  have L6 : Hid (Live w6 [(oU, U), (oC, C), (oB, B), (oA, A)]) := ((Hid.out L5).below hb).cons hI
  clear hC hI hb G5 L5
  go_wp2_with fail
  refine (got_ok oU cU U _).mono ?_
  rintro e w6' ⟨rfl, rfl⟩
  go_wp2_with fail
  refine (Meet_any oA oB cA cB A B _ ((Hid.out L6) (oA, A) (by simp)) ((Hid.out L6) (oB, B) (by simp))).mono ?_
  rintro e w7 ⟨mM, M, hC, oM, cM, rfl, hI, hb⟩
  obtain ⟨rfl, hS, hG⟩ := comb_ok (Hid.out QA) (Hid.out QB) (by omega) (by omega) (by omega) hC
  have SM : Hid (SetIs wAnd A B M) := hS
  have QM : Hid (Good 120 M) := hG
  clear hS hG
  have G7 : Hid (Below w.heap.size w w7) := bt (Hid.out G6) hb
  have L7 : Hid (Live w7 [(oM, M), (oU, U), (oC, C), (oB, B), (oA, A)]) := ((Hid.out L6).below hb).cons hI
  clear hC hI hb G6 L6
  go_wp2_with fail
  refine (got_ok oM cM M _).mono ?_
  rintro e w7' ⟨rfl, rfl⟩
  go_wp2_with fail
  refine (Minus_any oA oB cA cB A B _ ((Hid.out L7) (oA, A) (by simp)) ((Hid.out L7) (oB, B) (by simp))).mono ?_
  rintro e w8 ⟨mD, D, hC, oD, cD, rfl, hI, hb⟩
  obtain ⟨rfl, hS, hG⟩ := comb_ok (Hid.out QA) (Hid.out QB) (by omega) (by omega) (by omega) hC
  have SD : Hid (SetIs wNot A B D) := hS
  have QD : Hid (Good 120 D) := hG
  clear hS hG
  have G8 : Hid (Below w.heap.size w w8) := bt (Hid.out G7) hb
  have L8 : Hid (Live w8 [(oD, D), (oM, M), (oU, U), (oC, C), (oB, B), (oA, A)]) := ((Hid.out L7).below hb).cons hI
  clear hC hI hb G7 L7
  go_wp2_with fail
  refine (got_ok oD cD D _).mono ?_
  rintro e w8' ⟨rfl, rfl⟩
  go_wp2_with fail
  refine (Union_any oB oA cB cA B A _ ((Hid.out L8) (oB, B) (by simp)) ((Hid.out L8) (oA, A) (by simp))).mono ?_
  rintro e w9 ⟨mU2, U2, hC, oU2, cU2, rfl, hI, hb⟩
  obtain ⟨rfl, hS, hG⟩ := comb_ok (Hid.out QB) (Hid.out QA) (by omega) (by omega) (by omega) hC
  have SU2 : Hid (SetIs wOr B A U2) := hS
  have QU2 : Hid (Good 120 U2) := hG
  clear hS hG
  have G9 : Hid (Below w.heap.size w w9) := bt (Hid.out G8) hb
  have L9 : Hid (Live w9 [(oU2, U2), (oD, D), (oM, M), (oU, U), (oC, C), (oB, B), (oA, A)]) := ((Hid.out L8).below hb).cons hI
  clear hC hI hb G8 L8
  go_wp2_with fail
  refine (got_ok oU2 cU2 U2 _).mono ?_
  rintro e w9' ⟨rfl, rfl⟩
  have hE : U = U2 := by exact setIs_unique (Hid.out SU) (Hid.out SU2).canon (fun t => by rw [(Hid.out SU2).pts]; simp only [wOr]; cases has A t <;> cases has B t <;> rfl)
  have hD : decide (U = U2) = true := decide_eq_true hE
  have HD : Hid (decide (U = U2) = true) := hD
  clear hE hD
  go_wp2_with fail
  refine (Equal_any oU oU2 cU cU2 U U2 _ ((Hid.out L9) (oU, U) (by simp)) ((Hid.out L9) (oU2, U2) (by simp)) (Nat.le_trans (Hid.out QU).len (by omega))).mono ?_
  rintro e w10 ⟨rfl, hb⟩
  rw [HD.out]
  have G10 : Hid (Below w.heap.size w w10) := bt (Hid.out G9) hb
  have L10 : Hid (Live w10 [(oU2, U2), (oD, D), (oM, M), (oU, U), (oC, C), (oB, B), (oA, A)]) := (Hid.out L9).below hb
  clear hb G9 L9 HD
  have L10t : Hid (Live _ [(oD, D), (oM, M), (oU, U), (oC, C), (oB, B), (oA, A)]) := (Hid.out L10).tail
  clear L10
  have L10 := L10t
  clear L10t
  go_wp2_with fail
  refine (Meet_any oB oA cB cA B A _ ((Hid.out L10) (oB, B) (by simp)) ((Hid.out L10) (oA, A) (by simp))).mono ?_
  rintro e w11 ⟨mM2, M2, hC, oM2, cM2, rfl, hI, hb⟩
  obtain ⟨rfl, hS, hG⟩ := comb_ok (Hid.out QB) (Hid.out QA) (by omega) (by omega) (by omega) hC
  have SM2 : Hid (SetIs wAnd B A M2) := hS
  have QM2 : Hid (Good 120 M2) := hG
  clear hS hG
  have G11 : Hid (Below w.heap.size w w11) := bt (Hid.out G10) hb
  have L11 : Hid (Live w11 [(oM2, M2), (oD, D), (oM, M), (oU, U), (oC, C), (oB, B), (oA, A)]) := ((Hid.out L10).below hb).cons hI
  clear hC hI hb G10 L10
  go_wp2_with fail
  refine (got_ok oM2 cM2 M2 _).mono ?_
  rintro e w11' ⟨rfl, rfl⟩
  have hE : M = M2 := by exact setIs_unique (Hid.out SM) (Hid.out SM2).canon (fun t => by rw [(Hid.out SM2).pts]; simp only [wAnd]; cases has A t <;> cases has B t <;> rfl)
  have hD : decide (M = M2) = true := decide_eq_true hE
  have HD : Hid (decide (M = M2) = true) := hD
  clear hE hD
  go_wp2_with fail
  refine (Equal_any oM oM2 cM cM2 M M2 _ ((Hid.out L11) (oM, M) (by simp)) ((Hid.out L11) (oM2, M2) (by simp)) (Nat.le_trans (Hid.out QM).len (by omega))).mono ?_
  rintro e w12 ⟨rfl, hb⟩
  rw [HD.out]
  have G12 : Hid (Below w.heap.size w w12) := bt (Hid.out G11) hb
  have L12 : Hid (Live w12 [(oM2, M2), (oD, D), (oM, M), (oU, U), (oC, C), (oB, B), (oA, A)]) := (Hid.out L11).below hb
  clear hb G11 L11 HD
  have L12t : Hid (Live _ [(oD, D), (oM, M), (oU, U), (oC, C), (oB, B), (oA, A)]) := (Hid.out L12).tail
  clear L12
  have L12 := L12t
  clear L12t
  go_wp2_with fail
  refine (Union_any oD oM cD cM D M _ ((Hid.out L12) (oD, D) (by simp)) ((Hid.out L12) (oM, M) (by simp))).mono ?_
  rintro e w13 ⟨mR1, R1, hC, oR1, cR1, rfl, hI, hb⟩
  obtain ⟨rfl, hE⟩ := comb_eq (T := A) (Hid.out QD) (Hid.out QM) (by omega) (by omega) (Hid.out QA).canon (Nat.le_trans (Hid.out QA).len (by omega)) (by intro t; rw [(Hid.out SD).pts, (Hid.out SM).pts]; simp only [wOr, wAnd, wNot]; cases has A t <;> cases has B t <;> rfl) hC
  have ER1 : Hid (R1 = A) := hE
  clear hE
  have G13 : Hid (Below w.heap.size w w13) := bt (Hid.out G12) hb
  have L13 : Hid (Live w13 [(oR1, R1), (oD, D), (oM, M), (oU, U), (oC, C), (oB, B), (oA, A)]) := ((Hid.out L12).below hb).cons hI
  clear hC hI hb G12 L12
  go_wp2_with fail
  refine (got_ok oR1 cR1 R1 _).mono ?_
  rintro e w13' ⟨rfl, rfl⟩
  have hE : R1 = A := by exact Hid.out ER1
  have hD : decide (R1 = A) = true := decide_eq_true hE
  have HD : Hid (decide (R1 = A) = true) := hD
  clear hE hD
  go_wp2_with fail
  refine (Equal_any oR1 oA cR1 cA R1 A _ ((Hid.out L13) (oR1, R1) (by simp)) ((Hid.out L13) (oA, A) (by simp)) (by rw [Hid.out ER1]; exact Nat.le_trans (Hid.out QA).len (by omega))).mono ?_
  rintro e w14 ⟨rfl, hb⟩
  rw [HD.out]
  have G14 : Hid (Below w.heap.size w w14) := bt (Hid.out G13) hb
  have L14 : Hid (Live w14 [(oR1, R1), (oD, D), (oM, M), (oU, U), (oC, C), (oB, B), (oA, A)]) := (Hid.out L13).below hb
  clear hb G13 L13 HD
  have L14t : Hid (Live _ [(oD, D), (oM, M), (oU, U), (oC, C), (oB, B), (oA, A)]) := (Hid.out L14).tail
  clear L14
  have L14 := L14t
  clear L14t
  go_wp2_with fail
  refine (Union_any oD oB cD cB D B _ ((Hid.out L14) (oD, D) (by simp)) ((Hid.out L14) (oB, B) (by simp))).mono ?_
  rintro e w15 ⟨mR2, R2, hC, oR2, cR2, rfl, hI, hb⟩
  obtain ⟨rfl, hS, hG⟩ := comb_ok (Hid.out QD) (Hid.out QB) (by omega) (by omega) (by omega) hC
  have SR2 : Hid (SetIs wOr D B R2) := hS
  have QR2 : Hid (Good 180 R2) := hG
  clear hS hG
  have G15 : Hid (Below w.heap.size w w15) := bt (Hid.out G14) hb
  have L15 : Hid (Live w15 [(oR2, R2), (oD, D), (oM, M), (oU, U), (oC, C), (oB, B), (oA, A)]) := ((Hid.out L14).below hb).cons hI
  clear hC hI hb G14 L14
  go_wp2_with fail
  refine (got_ok oR2 cR2 R2 _).mono ?_
  rintro e w15' ⟨rfl, rfl⟩
  have hE : R2 = U := by exact setIs_unique (Hid.out SR2) (Hid.out SU).canon (fun t => by rw [(Hid.out SU).pts, (Hid.out SD).pts]; simp only [wOr, wNot]; cases has A t <;> cases has B t <;> rfl)
  have hD : decide (R2 = U) = true := decide_eq_true hE
  have HD : Hid (decide (R2 = U) = true) := hD
  clear hE hD
  go_wp2_with fail
  refine (Equal_any oR2 oU cR2 cU R2 U _ ((Hid.out L15) (oR2, R2) (by simp)) ((Hid.out L15) (oU, U) (by simp)) (Nat.le_trans (Hid.out QR2).len (by omega))).mono ?_
  rintro e w16 ⟨rfl, hb⟩
  rw [HD.out]
  have G16 : Hid (Below w.heap.size w w16) := bt (Hid.out G15) hb
  have L16 : Hid (Live w16 [(oR2, R2), (oD, D), (oM, M), (oU, U), (oC, C), (oB, B), (oA, A)]) := (Hid.out L15).below hb
  clear hb G15 L15 HD
  have L16t : Hid (Live _ [(oD, D), (oM, M), (oU, U), (oC, C), (oB, B), (oA, A)]) := (Hid.out L16).tail
  clear L16
  have L16 := L16t
  clear L16t
  go_wp2_with fail
  refine (Union_any oB oC cB cC B C _ ((Hid.out L16) (oB, B) (by simp)) ((Hid.out L16) (oC, C) (by simp))).mono ?_
  rintro e w17 ⟨mV, V, hC, oV, cV, rfl, hI, hb⟩
  obtain ⟨rfl, hS, hG⟩ := comb_ok (Hid.out QB) (Hid.out QC) (by omega) (by omega) (by omega) hC
  have SV : Hid (SetIs wOr B C V) := hS
  have QV : Hid (Good 120 V) := hG
  clear hS hG
  have G17 : Hid (Below w.heap.size w w17) := bt (Hid.out G16) hb
  have L17 : Hid (Live w17 [(oV, V), (oD, D), (oM, M), (oU, U), (oC, C), (oB, B), (oA, A)]) := ((Hid.out L16).below hb).cons hI
  clear hC hI hb G16 L16
  go_wp2_with fail
  refine (got_ok oV cV V _).mono ?_
  rintro e w17' ⟨rfl, rfl⟩
  go_wp2_with fail
  refine (Minus_any oA oV cA cV A V _ ((Hid.out L17) (oA, A) (by simp)) ((Hid.out L17) (oV, V) (by simp))).mono ?_
  rintro e w18 ⟨mR3, R3, hC, oR3, cR3, rfl, hI, hb⟩
  obtain ⟨rfl, hS, hG⟩ := comb_ok (Hid.out QA) (Hid.out QV) (by omega) (by omega) (by omega) hC
  have SR3 : Hid (SetIs wNot A V R3) := hS
  have QR3 : Hid (Good 180 R3) := hG
  clear hS hG
  have G18 : Hid (Below w.heap.size w w18) := bt (Hid.out G17) hb
  have L18 : Hid (Live w18 [(oR3, R3), (oV, V), (oD, D), (oM, M), (oU, U), (oC, C), (oB, B), (oA, A)]) := ((Hid.out L17).below hb).cons hI
  clear hC hI hb G17 L17
  go_wp2_with fail
  refine (got_ok oR3 cR3 R3 _).mono ?_
  rintro e w18' ⟨rfl, rfl⟩
  go_wp2_with fail
  refine (Minus_any oD oC cD cC D C _ ((Hid.out L18) (oD, D) (by simp)) ((Hid.out L18) (oC, C) (by simp))).mono ?_
  rintro e w19 ⟨mR4, R4, hC, oR4, cR4, rfl, hI, hb⟩
  obtain ⟨rfl, hS, hG⟩ := comb_ok (Hid.out QD) (Hid.out QC) (by omega) (by omega) (by omega) hC
  have SR4 : Hid (SetIs wNot D C R4) := hS
  have QR4 : Hid (Good 180 R4) := hG
  clear hS hG
  have G19 : Hid (Below w.heap.size w w19) := bt (Hid.out G18) hb
  have L19 : Hid (Live w19 [(oR4, R4), (oR3, R3), (oV, V), (oD, D), (oM, M), (oU, U), (oC, C), (oB, B), (oA, A)]) := ((Hid.out L18).below hb).cons hI
  clear hC hI hb G18 L18
  go_wp2_with fail
  refine (got_ok oR4 cR4 R4 _).mono ?_
  rintro e w19' ⟨rfl, rfl⟩
  have hE : R3 = R4 := by exact setIs_unique (Hid.out SR3) (Hid.out SR4).canon (fun t => by rw [(Hid.out SR4).pts, (Hid.out SD).pts, (Hid.out SV).pts]; simp only [wOr, wNot]; cases has A t <;> cases has B t <;> cases has C t <;> rfl)
  have hD : decide (R3 = R4) = true := decide_eq_true hE
  have HD : Hid (decide (R3 = R4) = true) := hD
  clear hE hD
  go_wp2_with fail
  refine (Equal_any oR3 oR4 cR3 cR4 R3 R4 _ ((Hid.out L19) (oR3, R3) (by simp)) ((Hid.out L19) (oR4, R4) (by simp)) (Nat.le_trans (Hid.out QR3).len (by omega))).mono ?_
  rintro e w20 ⟨rfl, hb⟩
  rw [HD.out]
  have G20 : Hid (Below w.heap.size w w20) := bt (Hid.out G19) hb
  have L20 : Hid (Live w20 [(oR4, R4), (oR3, R3), (oV, V), (oD, D), (oM, M), (oU, U), (oC, C), (oB, B), (oA, A)]) := (Hid.out L19).below hb
  clear hb G19 L19 HD
  have L20t : Hid (Live _ [(oR3, R3), (oV, V), (oD, D), (oM, M), (oU, U), (oC, C), (oB, B), (oA, A)]) := (Hid.out L20).tail
  clear L20
  have L20 := L20t
  clear L20t
  have L20t : Hid (Live _ [(oV, V), (oD, D), (oM, M), (oU, U), (oC, C), (oB, B), (oA, A)]) := (Hid.out L20).tail
  clear L20
  have L20 := L20t
  clear L20t
  have L20t : Hid (Live _ [(oD, D), (oM, M), (oU, U), (oC, C), (oB, B), (oA, A)]) := (Hid.out L20).tail
  clear L20
  have L20 := L20t
  clear L20t
  go_wp2_with fail
  refine (Union_any oB oC cB cC B C _ ((Hid.out L20) (oB, B) (by simp)) ((Hid.out L20) (oC, C) (by simp))).mono ?_
  rintro e w21 ⟨mV2, V2, hC, oV2, cV2, rfl, hI, hb⟩
  obtain ⟨rfl, hS, hG⟩ := comb_ok (Hid.out QB) (Hid.out QC) (by omega) (by omega) (by omega) hC
  have SV2 : Hid (SetIs wOr B C V2) := hS
  have QV2 : Hid (Good 120 V2) := hG
  clear hS hG
  have G21 : Hid (Below w.heap.size w w21) := bt (Hid.out G20) hb
  have L21 : Hid (Live w21 [(oV2, V2), (oD, D), (oM, M), (oU, U), (oC, C), (oB, B), (oA, A)]) := ((Hid.out L20).below hb).cons hI
  clear hC hI hb G20 L20
  go_wp2_with fail
  refine (got_ok oV2 cV2 V2 _).mono ?_
  rintro e w21' ⟨rfl, rfl⟩
  go_wp2_with fail
  refine (Meet_any oA oV2 cA cV2 A V2 _ ((Hid.out L21) (oA, A) (by simp)) ((Hid.out L21) (oV2, V2) (by simp))).mono ?_
  rintro e w22 ⟨mR5, R5, hC, oR5, cR5, rfl, hI, hb⟩
  obtain ⟨rfl, hS, hG⟩ := comb_ok (Hid.out QA) (Hid.out QV2) (by omega) (by omega) (by omega) hC
  have SR5 : Hid (SetIs wAnd A V2 R5) := hS
  have QR5 : Hid (Good 180 R5) := hG
  clear hS hG
  have G22 : Hid (Below w.heap.size w w22) := bt (Hid.out G21) hb
  have L22 : Hid (Live w22 [(oR5, R5), (oV2, V2), (oD, D), (oM, M), (oU, U), (oC, C), (oB, B), (oA, A)]) := ((Hid.out L21).below hb).cons hI
  clear hC hI hb G21 L21
  go_wp2_with fail
  refine (got_ok oR5 cR5 R5 _).mono ?_
  rintro e w22' ⟨rfl, rfl⟩
  go_wp2_with fail
  refine (Meet_any oA oC cA cC A C _ ((Hid.out L22) (oA, A) (by simp)) ((Hid.out L22) (oC, C) (by simp))).mono ?_
  rintro e w23 ⟨mR6, R6, hC, oR6, cR6, rfl, hI, hb⟩
  obtain ⟨rfl, hS, hG⟩ := comb_ok (Hid.out QA) (Hid.out QC) (by omega) (by omega) (by omega) hC
  have SR6 : Hid (SetIs wAnd A C R6) := hS
  have QR6 : Hid (Good 120 R6) := hG
  clear hS hG
  have G23 : Hid (Below w.heap.size w w23) := bt (Hid.out G22) hb
  have L23 : Hid (Live w23 [(oR6, R6), (oR5, R5), (oV2, V2), (oD, D), (oM, M), (oU, U), (oC, C), (oB, B), (oA, A)]) := ((Hid.out L22).below hb).cons hI
  clear hC hI hb G22 L22
  go_wp2_with fail
  refine (got_ok oR6 cR6 R6 _).mono ?_
  rintro e w23' ⟨rfl, rfl⟩
  go_wp2_with fail
  refine (Union_any oM oR6 cM cR6 M R6 _ ((Hid.out L23) (oM, M) (by simp)) ((Hid.out L23) (oR6, R6) (by simp))).mono ?_
  rintro e w24 ⟨mR7, R7, hC, oR7, cR7, rfl, hI, hb⟩
  obtain ⟨rfl, hE⟩ := comb_eq (T := R5) (Hid.out QM) (Hid.out QR6) (by omega) (by omega) (Hid.out QR5).canon (Nat.le_trans (Hid.out QR5).len (by omega)) (by intro t; rw [(Hid.out SR5).pts, (Hid.out SM).pts, (Hid.out SR6).pts, (Hid.out SV2).pts]; simp only [wOr, wAnd]; cases has A t <;> cases has B t <;> cases has C t <;> rfl) hC
  have ER7 : Hid (R7 = R5) := hE
  clear hE
  have G24 : Hid (Below w.heap.size w w24) := bt (Hid.out G23) hb
  have L24 : Hid (Live w24 [(oR7, R7), (oR6, R6), (oR5, R5), (oV2, V2), (oD, D), (oM, M), (oU, U), (oC, C), (oB, B), (oA, A)]) := ((Hid.out L23).below hb).cons hI
  clear hC hI hb G23 L23
  go_wp2_with fail
  refine (got_ok oR7 cR7 R7 _).mono ?_
  rintro e w24' ⟨rfl, rfl⟩
  have hE : R5 = R7 := by exact (Hid.out ER7).symm
  have hD : decide (R5 = R7) = true := decide_eq_true hE
  have HD : Hid (decide (R5 = R7) = true) := hD
  clear hE hD
  go_wp2_with fail
  refine (Equal_any oR5 oR7 cR5 cR7 R5 R7 _ ((Hid.out L24) (oR5, R5) (by simp)) ((Hid.out L24) (oR7, R7) (by simp)) (Nat.le_trans (Hid.out QR5).len (by omega))).mono ?_
  rintro e w25 ⟨rfl, hb⟩
  rw [HD.out]
  have G25 : Hid (Below w.heap.size w w25) := bt (Hid.out G24) hb
  have L25 : Hid (Live w25 [(oR7, R7), (oR6, R6), (oR5, R5), (oV2, V2), (oD, D), (oM, M), (oU, U), (oC, C), (oB, B), (oA, A)]) := (Hid.out L24).below hb
  clear hb G24 L24 HD
  have L25t : Hid (Live _ [(oR6, R6), (oR5, R5), (oV2, V2), (oD, D), (oM, M), (oU, U), (oC, C), (oB, B), (oA, A)]) := (Hid.out L25).tail
  clear L25
  have L25 := L25t
  clear L25t
  have L25t : Hid (Live _ [(oR5, R5), (oV2, V2), (oD, D), (oM, M), (oU, U), (oC, C), (oB, B), (oA, A)]) := (Hid.out L25).tail
  clear L25
  have L25 := L25t
  clear L25t
  have L25t : Hid (Live _ [(oV2, V2), (oD, D), (oM, M), (oU, U), (oC, C), (oB, B), (oA, A)]) := (Hid.out L25).tail
  clear L25
  have L25 := L25t
  clear L25t
  have L25t : Hid (Live _ [(oD, D), (oM, M), (oU, U), (oC, C), (oB, B), (oA, A)]) := (Hid.out L25).tail
  clear L25
  have L25 := L25t
  clear L25t
  go_wp2_with fail
  refine (Size_ok oA cA A _ ((Hid.out L25) (oA, A) (by simp)) ((Hid.out QA).chk (by omega))).mono ?_
  rintro e w26 ⟨rfl, hb⟩
  have G26 : Hid (Below w.heap.size w w26) := bt (Hid.out G25) hb
  have L26 : Hid (Live w26 [(oD, D), (oM, M), (oU, U), (oC, C), (oB, B), (oA, A)]) := (Hid.out L25).below hb
  clear hb G25 L25
  have bdA := size_bd (Hid.out QA) (by omega)
  generalize hsA : size A = sA at *
  have ZA : Hid (size A = sA) := hsA
  clear hsA
  go_wp2_with fail
  refine (Size_ok oB cB B _ ((Hid.out L26) (oB, B) (by simp)) ((Hid.out QB).chk (by omega))).mono ?_
  rintro e w27 ⟨rfl, hb⟩
  have G27 : Hid (Below w.heap.size w w27) := bt (Hid.out G26) hb
  have L27 : Hid (Live w27 [(oD, D), (oM, M), (oU, U), (oC, C), (oB, B), (oA, A)]) := (Hid.out L26).below hb
  clear hb G26 L26
  have bdB := size_bd (Hid.out QB) (by omega)
  generalize hsB : size B = sB at *
  have ZB : Hid (size B = sB) := hsB
  clear hsB
  go_wp2_with fail
  refine (Size_ok oU cU U _ ((Hid.out L27) (oU, U) (by simp)) ((Hid.out QU).chk (by omega))).mono ?_
  rintro e w28 ⟨rfl, hb⟩
  have G28 : Hid (Below w.heap.size w w28) := bt (Hid.out G27) hb
  have L28 : Hid (Live w28 [(oD, D), (oM, M), (oU, U), (oC, C), (oB, B), (oA, A)]) := (Hid.out L27).below hb
  clear hb G27 L27
  have bdU := size_bd (Hid.out QU) (by omega)
  generalize hsU : size U = sU at *
  have ZU : Hid (size U = sU) := hsU
  clear hsU
  go_wp2_with fail
  refine (Size_ok oM cM M _ ((Hid.out L28) (oM, M) (by simp)) ((Hid.out QM).chk (by omega))).mono ?_
  rintro e w29 ⟨rfl, hb⟩
  have G29 : Hid (Below w.heap.size w w29) := bt (Hid.out G28) hb
  have L29 : Hid (Live w29 [(oD, D), (oM, M), (oU, U), (oC, C), (oB, B), (oA, A)]) := (Hid.out L28).below hb
  clear hb G28 L28
  have bdM := size_bd (Hid.out QM) (by omega)
  generalize hsM : size M = sM at *
  have ZM : Hid (size M = sM) := hsM
  clear hsM
  have hsum : sA + sB = sU + sM := by
    rw [← Hid.out ZA, ← Hid.out ZB, ← Hid.out ZU, ← Hid.out ZM]
    exact size_both (Hid.out QA).canon (Hid.out QB).canon (Hid.out QU).canon (Hid.out QM).canon (Hid.out QA).near (Hid.out QB).near (Hid.out QU).near (Hid.out QM).near (Hid.out SU).pts (Hid.out SM).pts
  have hq : (sA + sB == sU + sM) = true := by simp [hsum]
  clear hsum
  go_wp2
  go_ret
  exact ⟨rfl, Hid.out G29⟩

end Go.Proofs.Ytianoalbcaphiad
