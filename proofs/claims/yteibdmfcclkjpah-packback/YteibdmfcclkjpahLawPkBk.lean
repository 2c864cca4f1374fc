/-
  The law PackBack, walked.
-/
import Derived.Test.YteibdmfcclkjpahPkCon
import Derived.Test.YteibdmfcclkjpahPkBack
import Derived.Test.YteibdmfcclkjpahSame2
import Derived.Test.YteibdmfcclkjpahRRest
namespace Go.Proofs.Yteibdmfcclkjpah
open Go.RowKit

theorem enc_five : (encA ⟨5, [], []⟩).2 = 0 ∧ (encA ⟨5, [], []⟩).1.length = 10 ∧ (encA ⟨5, [], []⟩).1.take 6 = [0, 5, 0, 0, 0, 0] := by decide +kernel
theorem sum_nine : sumL [49, 50, 51, 52, 53, 54, 55, 56, 57] = 3421780262 := by decide +kernel

set_option maxRecDepth 100000 in
set_option maxHeartbeats 1000000 in
theorem packBack_err (hS : SumOk) (hE : EncOk) (g : Gr) (la ea : Option Addr) (lc ec : Nat) (s : ByteArray) (at_ : Int) (w : World) (hG : GAt w la ea g) (he : ¬ gChk g = 0) :
    Calls Try.prog 3 #[.agg #[.int .i64 g.hor, .slice la g.lives.length lc, .slice ea g.edges.length ec], .string s, .int .i64 at_] w fun r w' => r = .returned (.bool true) ∧ Below w.heap.size w w' := by
  have B0 := gbx_start w g la ea lc ec 25
  have h0 := hE ⟨5, [], []⟩ none none 0 0 (w.alloc (.cells #[.int .i64 g.hor, .slice la g.lives.length lc, .slice ea g.edges.length ec] 25)) ⟨.inl rfl, .inl rfl, by simp, by simp⟩
  obtain ⟨z1, z2, z3⟩ := enc_five
  have H1 := hideg (fun W => hS ⟨#[49, 50, 51, 52, 53, 54, 55, 56, 57]⟩ W (by decide))
  rw [show (⟨#[49, 50, 51, 52, 53, 54, 55, 56, 57]⟩ : ByteArray).data.toList = [49, 50, 51, 52, 53, 54, 55, 56, 57] from rfl, sum_nine] at H1
  generalize encA ⟨5, [], []⟩ = Z at *
  obtain ⟨C0, e0⟩ := Z
  simp only [List.length_nil] at z1 z2 z3 h0
  subst z1
  have hA : encA g = ([], gChk g) := by unfold encA; rw [if_neg he]
  have HE := hideg (fun W (hb : Below w.heap.size w W) => hE g la ea lc ec W (hG.below hb))
  rw [hA] at HE
  have d1 : (gChk g != 0) = true := by simpa using he
  have x1 : (ByteArray.mk C0.toArray).size = 10 := by show C0.toArray.size = 10; simpa using z2
  have x2 : (ByteArray.mk C0.toArray).extract 0 6 = ⟨#[0, 5, 0, 0, 0, 0]⟩ := by
    apply WideShapes.bytes_inj
    rw [ext_take]
    simpa using z3
  generalize ByteArray.mk C0.toArray = C at *
  generalize gChk g = n at *
  clear hG hE hS he hA z2 z3 C0
  go_enter Try.func3, Try.ntmps3
  go_wp2_with fail
  refine h0.mono ?_
  rintro r w1 ⟨rfl, hb1⟩
  have B1 := B0.below hb1
  have h1 := H1.out w1
  clear h0 hb1 B0 H1
  go_wp2_with fail
  refine h1.mono ?_
  rintro r w2 ⟨rfl, hb2⟩
  have B2 := B1.below hb2
  have f0 := B2.c0
  have f1 := B2.c1
  have f2 := B2.c2
  have h2 := HE.out _ B2.bel
  clear h1 hb2 B1 HE
  go_wp2_with fail
  refine h2.mono ?_
  rintro r w3 ⟨rfl, hb3⟩
  have hbE := (B2.below hb3).bel
  clear h2 hb3 f0 f1 f2
  go_wp2
  go_ret
  exact ⟨rfl, hbE⟩

theorem bytes_app (a b : ByteArray) : (a ++ b).data.toList = a.data.toList ++ b.data.toList := by simp [ByteArray.data_append]
theorem coded_small {g : Gr} (h0 : gChk g = 0) : (coded g).length ≤ 4000 ∧ 0 < (coded g).length := by
  have hR := gChk_right h0
  have h1 := numsB_len hR g.edges.length
  rw [numsB_all] at h1
  have h2 := hR.lvs
  have h3 := hR.eds
  rw [coded_len, codeL_len]
  omega
/-- the bytes of a text, as a row of its own -/
theorem bytes_made (w : World) (C : ByteArray) : ∃ cp wB, (convert 9 35 (.string C)).run Try.prog w = .ok (.slice (some ⟨w.heap.size, 0, none⟩) C.size cp) wB ∧ Below w.heap.size w wB ∧ (∀ j (hj : j < C.data.size), wB.cell? ⟨w.heap.size, j, none⟩ = some (.int .u8 (C.data[j].toNat : Int))) ∧ (∀ j, j < C.data.size → wB.frozen? ⟨w.heap.size, j, none⟩ = false) := by
  refine ⟨_, _, run_bytes_of_string (P := Try.prog) w 9 35 5 C Try.underlying9 Try.underlying35 Try.underlying5, ?_, ?_, ?_⟩
  · exact ptg (Below.refl _ _).drew (gal _ _)
  · intro j hj
    exact (World.cell?_alloc_mark w.drew _ _ _ j).trans (bytesRow_at C _ j hj)
  · intro j hj
    refine (World.frozen?_alloc_mark w.drew _ _ _ _ j).trans ?_
    have hz : C.data.size ≤ (bytesRow C (grownCap w C.size 0 5)).size := by simp [bytesRow]
    have : ∀ n : Nat, j < n → (decide (n ≤ j) && decide (j < n + 1)) = false := fun n hn => by simp; omega
    exact this _ (by omega)

theorem xor_u8 (a b : Nat) (ha : a < 256) (hb : b < 256) : bits .xor .u8 (a : Int) (b : Int) = ((a ^^^ b : Nat) : Int) := by
  have hx : a ^^^ b < 2 ^ 8 := Nat.xor_lt_two_pow (by omega) (by omega)
  have e : ∀ c : Nat, c < 256 → (BitVec.ofInt 8 (c : Int)).toNat = c := fun c hc => by
    rw [BitVec.ofInt_natCast, BitVec.toNat_ofNat]; exact Nat.mod_eq_of_lt (by omega)
  show IntKind.u8.wrap ((BitVec.ofInt 8 (a : Int) ^^^ BitVec.ofInt 8 (b : Int)).toNat : Int) = _
  rw [BitVec.toNat_xor, e a ha, e b hb]
  exact wrap_u8 _ (by omega) (by omega)
theorem bit_byte {x r : Nat} (hx : x < 256) (hr : r < 8) : ∃ y : UInt8, bits .xor .u8 (x : Int) (2 ^ r % 256) = (y.toNat : Int) ∧ y.toNat ≠ x := by
  have hp : 2 ^ r < 256 := Nat.lt_of_lt_of_le (Nat.pow_lt_pow_right (by omega) hr) (Nat.le_refl 256)
  have hp0 : 0 < 2 ^ r := Nat.pow_pos (by omega)
  have hb : ((2 : Int) ^ r % 256) = ((2 ^ r : Nat) : Int) := by
    rw [show ((2 : Int) ^ r) = ((2 ^ r : Nat) : Int) by simp]
    omega
  have hz : x ^^^ 2 ^ r < 2 ^ 8 := Nat.xor_lt_two_pow (by omega) (by omega)
  refine ⟨UInt8.ofNat (x ^^^ 2 ^ r), ?_, ?_⟩
  · rw [hb, xor_u8 x _ hx hp, UInt8.toNat_ofNat_of_lt' (by simpa using hz)]
  · rw [UInt8.toNat_ofNat_of_lt' (by simpa using hz)]
    intro h
    have h1 : x ^^^ (x ^^^ 2 ^ r) = x ^^^ x := by rw [h]
    rw [← Nat.xor_assoc, Nat.xor_self, Nat.zero_xor] at h1
    omega
/-- one bit of a row of bytes turned -/
theorem turned_bit {C : ByteArray} {L : List UInt8} (hL : C.data.toList = L) {q r : Nat} (hq : q < C.data.size) (hr : r < 8) {w : World} {B : Nat} (hc : ∀ j (hj : j < C.data.size), w.cell? ⟨B, j, none⟩ = some (.int .u8 (C.data[j].toNat : Int))) :
    ∃ L' : List UInt8, L'.length = L.length ∧ L' ≠ L ∧ ∀ cp, (convert 35 9 (.slice (some ⟨B, 0, none⟩) L.length cp)).run Try.prog (w.setCell ⟨B, q, none⟩ (.int .u8 (bits .xor .u8 (C.data[q].toNat : Int) (2 ^ r % 256)))).drew = .ok (.string ⟨L'.toArray⟩) (w.setCell ⟨B, q, none⟩ (.int .u8 (bits .xor .u8 (C.data[q].toNat : Int) (2 ^ r % 256)))).drew := by
  obtain ⟨y, hy, hne⟩ := bit_byte (x := C.data[q].toNat) (r := r) C.data[q].toNat_lt hr
  have hql : q < L.length := by rw [← hL]; simpa using hq
  have hget : ∀ j (hj : j < C.data.size), L[j]? = some C.data[j] := fun j hj => by rw [← hL]; simp
  refine ⟨L.set q y, by simp, ?_, fun cp => ?_⟩
  · intro h
    have h1 : (L.set q y)[q]? = L[q]? := by rw [h]
    rw [List.getElem?_set_self hql, hget q hq] at h1
    exact hne (by rw [Option.some.inj h1])
  · rw [hy]
    have e : L.length = (L.set q y).length := by simp
    rw [e]
    refine run_convert_bytes_back (P := Try.prog) _ 35 9 5 ⟨B, 0, none⟩ cp (L.set q y) Try.underlying35 Try.underlying5 Try.underlying9 fun j hj => ?_
    have hj' : j < C.data.size := by rw [List.length_set, ← hL] at hj; simpa using hj
    rw [WideShapes.add_plain, Nat.zero_add]
    show (w.setCell ⟨B, q, none⟩ (.int .u8 (y.toNat : Int))).cell? ⟨B, j, none⟩ = _
    by_cases hjq : j = q
    · subst hjq
      rw [World.cell?_setCell_same _ _ _ (hc j hj'), List.getElem_set_self]
    · rw [World.cell?_setCell_other _ _ _ _ (by simp), hc j hj', List.getElem_set_ne (by omega)]
      have h2 := hget j hj'
      rw [List.getElem?_eq_getElem (by rw [← hL]; exact hj')] at h2
      rw [Option.some.inj h2]

set_option maxRecDepth 100000 in
set_option maxHeartbeats 1000000 in
theorem packBack_ok (hS : SumOk) (hD : DecOk) (hE : EncOk) (g : Gr) (la ea : Option Addr) (lc ec : Nat) (s : ByteArray) (at_ : Int) (w : World) (hG : GAt w la ea g) (hs : s.size ≤ 140737488351232) (he : gChk g = 0) :
    Calls Try.prog 3 #[.agg #[.int .i64 g.hor, .slice la g.lives.length lc, .slice ea g.edges.length ec], .string s, .int .i64 at_] w fun r w' => r = .returned (.bool true) ∧ Below w.heap.size w w' := by
  have B0 := gbx_start w g la ea lc ec 25
  have h0 := hE ⟨5, [], []⟩ none none 0 0 (w.alloc (.cells #[.int .i64 g.hor, .slice la g.lives.length lc, .slice ea g.edges.length ec] 25)) ⟨.inl rfl, .inl rfl, by simp, by simp⟩
  obtain ⟨z1, z2, z3⟩ := enc_five
  have H1 := hideg (fun W => hS ⟨#[49, 50, 51, 52, 53, 54, 55, 56, 57]⟩ W (by decide))
  rw [show (⟨#[49, 50, 51, 52, 53, 54, 55, 56, 57]⟩ : ByteArray).data.toList = [49, 50, 51, 52, 53, 54, 55, 56, 57] from rfl, sum_nine] at H1
  generalize encA ⟨5, [], []⟩ = Z at *
  obtain ⟨C0, e0⟩ := Z
  simp only [List.length_nil] at z1 z2 z3 h0
  subst z1
  have hA : encA g = (coded g, 0) := by unfold encA; rw [if_pos he]
  have HE := hideg (fun W (hb : Below w.heap.size w W) => hE g la ea lc ec W (hG.below hb))
  rw [hA] at HE
  have x1 : (ByteArray.mk C0.toArray).size = 10 := by show C0.toArray.size = 10; simpa using z2
  have x2 : (ByteArray.mk C0.toArray).extract 0 6 = ⟨#[0, 5, 0, 0, 0, 0]⟩ := by
    apply WideShapes.bytes_inj
    rw [ext_take]
    simpa using z3
  generalize ByteArray.mk C0.toArray = C1 at *
  obtain ⟨hlen, hlen0⟩ := coded_small he
  have hCl : (ByteArray.mk (coded g).toArray).data.toList = coded g := by simp
  have hCs : (ByteArray.mk (coded g).toArray).size = (coded g).length := by show (coded g).toArray.size = _; simp
  have HDm := hideg (fun W => hD (⟨(coded g).toArray⟩ ++ s) W (by rw [ByteArray.size_append, hCs]; omega))
  rw [bytes_app, hCl, dec_coded he] at HDm
  have HDp : Hid (∀ W (r : Nat), r < (coded g).length → Calls Try.prog 8 #[.string ((ByteArray.mk (coded g).toArray).extract 0 r)] W fun e w' => ∃ x n y1 y2 y3 z1 z2 z3, e = .returned (.tuple #[.agg #[.int .i64 x, .slice y1 y2 y3, .slice z1 z2 z3], .int .i64 n, .int .i64 5]) ∧ Below W.heap.size W w') := fun W r hr => by
    refine (hD _ W ?_).mono ?_
    · rw [ByteArray.size_extract]; omega
    · rintro e w' ⟨la', ea', lc', ec', rfl, _, hb⟩
      rw [ext_take, hCl, dec_pre he hr]
      exact ⟨_, _, _, _, _, _, _, _, rfl, hb⟩
  have HSm := hideg (fun W l1 e1 c1 d1 (h : GAt W l1 e1 g) (hb : Below w.heap.size w W) => Same_any g l1 e1 la ea c1 d1 lc ec W h (hG.below hb))
  have HDo : Hid (∀ (b : List UInt8) W, b.length = (coded g).length → b ≠ coded g → Calls Try.prog 8 #[.string ⟨b.toArray⟩] W fun e w' => ∃ g' l1 e1 c1 d1 n x, e = .returned (.tuple #[.agg #[.int .i64 g'.hor, .slice l1 g'.lives.length c1, .slice e1 g'.edges.length d1], .int .i64 n, .int .i64 x]) ∧ (x = 0 → g' ≠ g) ∧ GAt w' l1 e1 g' ∧ Below W.heap.size W w') := fun b W hl hb => by
    refine (hD ⟨b.toArray⟩ W ?_).mono ?_
    · show b.toArray.size ≤ _; simp; omega
    · rintro e w' ⟨la', ea', lc', ec', rfl, hG', hb'⟩
      exact ⟨_, _, _, _, _, _, _, rfl, fun h => dec_other he hl hb (n := (decA b).2.1) (by rw [← h]), hG', hb'⟩
  have HSo := hideg (fun W g' l1 e1 c1 d1 (h : GAt W l1 e1 g') (hb : Below w.heap.size w W) (hn : g' ≠ g) => Same_other g' g l1 e1 la ea c1 d1 lc ec W h (hG.below hb) hn)
  have HRs : Hid (∀ W (m : Int), 0 < m → m ≤ 32000 → Calls Try.prog 9 #[.int .i64 at_, .int .i64 m] W fun e w' => (∃ k : Nat, (k : Int) < m ∧ e = .returned (.int .i64 k)) ∧ w' = W) := fun W m h0 hm => by
    refine (restF_any at_ m h0 (by omega) W).mono ?_
    rintro e w' ⟨rfl, rfl⟩
    obtain ⟨h1, h2⟩ := restF_in at_ m h0
    exact ⟨⟨(restF at_ m).toNat, by omega, by rw [Int.toNat_of_nonneg h1]⟩, rfl⟩
  have HCl := hideg hCl
  have hCd : (ByteArray.mk (coded g).toArray).data.size = (coded g).length := hCs
  generalize ByteArray.mk (coded g).toArray = C at *
  generalize coded g = L at *
  have HLN : Hid (L.length = L.length) := rfl
  generalize hN : L.length = N at *
  clear hG hE hD hS he hA z2 z3 C0 hCl hN HLN
  go_enter Try.func3, Try.ntmps3
  go_wp2_with fail
  refine h0.mono ?_
  rintro r w1 ⟨rfl, hb1⟩
  have B1 := B0.below hb1
  have h1 := H1.out w1
  clear h0 hb1 B0 H1
  go_wp2_with fail
  refine h1.mono ?_
  rintro r w2 ⟨rfl, hb2⟩
  have B2 := B1.below hb2
  have f0 := B2.c0
  have f1 := B2.c1
  have f2 := B2.c2
  have h2 := HE.out _ B2.bel
  clear h1 hb2 B1 HE
  go_wp2_with fail
  refine h2.mono ?_
  rintro r w3 ⟨rfl, hb3⟩
  have B3 := B2.below hb3
  have h3 := HDm.out w3
  clear h2 hb3 f0 f1 f2 B2 HDm
  go_wp2_with fail
  refine h3.mono ?_
  rintro r w4 ⟨l1, e1, c1, d1, rfl, hG4, hb4⟩
  have X4 := gbx_start w4 g l1 e1 c1 d1 25
  have B4 := (B3.below hb4).below X4.bel
  have hG5 := hG4.below X4.bel
  obtain ⟨w5, hw5⟩ : ∃ x, x = w4.alloc (.cells #[.int .i64 g.hor, .slice l1 g.lives.length c1, .slice e1 g.edges.length d1] 25) := ⟨_, rfl⟩
  rw [← hw5] at X4 B4 hG5
  have h5 := HRs.out w5 (N : Int) (by omega) (by omega)
  clear h3 hb4 B3 hG4
  go_wp2_with fail
  rw [← hw5]
  refine h5.mono ?_
  rintro r w5 ⟨⟨k, hk, rfl⟩, rfl⟩
  have k0 : (0 : Int) ≤ (k : Int) := by omega
  have k1 : (k : Int) ≤ (N : Int) := by omega
  have h6 := HDp.out w5 k (by omega)
  clear h5 hk hw5 HDp
  go_wp2_with fail
  refine h6.mono ?_
  rintro r w6 ⟨xx, nn, y1, y2, y3, z1, z2, z3, rfl, hb6⟩
  have X6 := (X4.below hb6).below (gal w6 (.cells #[.int .i64 xx, .slice y1 y2 y3, .slice z1 z2 z3] 25))
  have B6 := (B4.below hb6).below (gal w6 (.cells #[.int .i64 xx, .slice y1 y2 y3, .slice z1 z2 z3] 25))
  have hG6 := hG5.below (ptg hb6 (gal w6 (.cells #[.int .i64 xx, .slice y1 y2 y3, .slice z1 z2 z3] 25)))
  have h7 := HSm.out _ l1 e1 c1 d1 hG6 B6.bel
  have f0 := B6.c0
  have f1 := B6.c1
  have f2 := B6.c2
  have q0 := X6.c0
  have q1 := X6.c1
  have q2 := X6.c2
  clear h6 hb6 X4 B4 hG5 k0 k1 HSm hG6
  go_wp2_with fail
  refine h7.mono ?_
  rintro r w8 ⟨rfl, hb8⟩
  have B8 := B6.below hb8
  obtain ⟨cp, wB, hcv, hbB, hcell, hfz⟩ := bytes_made w8 C
  have B9 := B8.below hbB
  have hm8 : IntKind.i64.wrap (8 * (N : Int)) = ((8 * N : Nat) : Int) := by rw [wrap_nr _ (by omega) (by omega)]; omega
  have h9 := HRs.out wB ((8 * N : Nat) : Int) (by omega) (by omega)
  rw [hCs] at hcv
  clear h7 hb8 X6 B6 f0 f1 f2 q0 q1 q2 HRs
  go_wp2_with fail
  refine h9.mono ?_
  rintro r wB ⟨⟨k, hk, rfl⟩, rfl⟩
  clear h9
  have hq8 : k / 8 < C.data.size := by omega
  have cq := hcell (k / 8) hq8
  have fq := hfz (k / 8) hq8
  obtain ⟨L', m1, m2, m3⟩ := turned_bit HCl.out (q := k / 8) (r := k % 8) hq8 (by omega) hcell
  have hcw := m3 cp
  have hLN : L.length = N := by rw [← HCl.out, ← hCd]; simp
  rw [hLN] at hcw m1
  have HM := hideg (And.intro m1 m2)
  generalize C.data[k / 8].toNat = x at cq hcw
  have hbC := (hbB.setCell (p := ⟨w8.heap.size, k / 8, none⟩) (Nat.le_refl _) (.int .u8 (bits .xor .u8 (x : Int) (2 ^ (k % 8) % 256)))).drew
  have BC := B8.below hbC
  clear hcv hcell hfz m3 m1 m2 hLN hbC B8 hbB B9 hm8
  go_wp2_with fail
  go_region
  clear cq fq
  generalize (wB.setCell ⟨w8.heap.size, k / 8, none⟩ (.int .u8 (bits .xor .u8 (x : Int) (2 ^ (k % 8) % 256)))).drew = wC at *
  have h10 := HDo.out L' wC HM.out.1 HM.out.2
  go_wp2_with fail
  refine h10.mono ?_
  rintro r w10 ⟨g', l2, e2, c2, d2, n2, x', rfl, hx, hG', hb10⟩
  have B10 := (BC.below hb10).below (gal w10 (.cells #[.int .i64 g'.hor, .slice l2 g'.lives.length c2, .slice e2 g'.edges.length d2] 25))
  have Y10 := gbx_start w10 g' l2 e2 c2 d2 25
  by_cases hx0 : x' = 0
  · subst hx0
    have f0 := B10.c0
    have f1 := B10.c1
    have f2 := B10.c2
    have h11 := HSo.out _ g' l2 e2 c2 d2 (hG'.below Y10.bel) B10.bel (hx rfl)
    have hbK := B10.bel
    clear h10 hx hG' HDo HSo HM hcw hb10 Y10 B10 BC
    go_wp2_with fail
    refine h11.mono ?_
    rintro r w11 ⟨rfl, hb11⟩
    have hbE := ptg hbK hb11
    clear h11 hb11 f0 f1 f2
    go_wp2
    go_ret
    exact ⟨rfl, hbE⟩
  · have dx : (x' != 0) = true := by simpa using hx0
    have hbE := B10.bel
    clear h10 hx hG' HDo HSo HM hcw hb10 Y10 B10 BC hx0
    go_wp2
    go_ret
    exact ⟨rfl, hbE⟩

theorem packBack_over (hS : SumOk) (hD : DecOk) (hE : EncOk) (g : Gr) (la ea : Option Addr) (lc ec : Nat) (s : ByteArray) (at_ : Int) (w : World) (hG : GAt w la ea g) (hs : s.size ≤ 140737488351232) :
    Calls Try.prog 3 #[.agg #[.int .i64 g.hor, .slice la g.lives.length lc, .slice ea g.edges.length ec], .string s, .int .i64 at_] w fun r w' => r = .returned (.bool true) ∧ Below w.heap.size w w' := by
  by_cases he : gChk g = 0
  · exact packBack_ok hS hD hE g la ea lc ec s at_ w hG hs he
  · exact packBack_err hS hE g la ea lc ec s at_ w hG he

end Go.Proofs.Yteibdmfcclkjpah
