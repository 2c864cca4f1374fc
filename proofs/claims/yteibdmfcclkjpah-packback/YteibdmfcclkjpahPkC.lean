/-
  What Encode of the program answers.
-/
import Derived.Test.YteibdmfcclkjpahPkB
namespace Go.Proofs.Yteibdmfcclkjpah
open Go.RowKit

theorem sum_byte (d : Nat) : IntKind.u8.wrap (d : Int) = ((UInt8.ofNat (d % 256)).toNat : Int) := bytes_lo
theorem sum4_is (sm : Nat) : (sum4 sm 4).map bv = [.int .u8 ((UInt8.ofNat (sm % 256)).toNat : Int), .int .u8 ((UInt8.ofNat (sm / 256 % 256)).toNat : Int), .int .u8 ((UInt8.ofNat (sm / 65536 % 256)).toNat : Int), .int .u8 ((UInt8.ofNat (sm / 16777216 % 256)).toNat : Int)] := by
  simp [sum4, bv]

set_option maxRecDepth 100000 in
set_option maxHeartbeats 1000000 in
theorem wSum_any (B : Nat) (l : List UInt8) (v : Value) (n : Nat) (w : World) (hB : B ≤ w.heap.size) (hn : n = l.length) (hnl : n ≤ 100000) (hrow : w.ownsRow B 5 1 v n (l.map bv)) :
    Calls Try.prog 34 #[v] w fun r w' => ∃ v', r = .returned v' ∧ w'.ownsRow B 5 1 v' (l ++ sum4 (sumL l) 4).length ((l ++ sum4 (sumL l) 4).map bv) ∧ w.grownBy w' v.ownBlock := by
  obtain ⟨ib, hib, hb0, hb1, hb2⟩ := info_parts Try.infoByteP
  have hcv := row_text hrow hn
  have HRow := hideg hrow
  obtain ⟨va, vc, rfl, _, _⟩ := row_form hrow
  have hSs := pSumE_any ⟨l.toArray⟩ w (by show l.toArray.size ≤ _; simp; omega)
  rw [show (ByteArray.mk l.toArray).data.toList = l by simp] at hSs
  have hsl := sumL_lt l
  have HS4 := hideg (sum4_is (sumL l))
  have HS4l := hideg (sum4_len (sumL l) 4)
  have b0 := sum_byte (sumL l)
  have b1 : IntKind.u8.wrap ((sumL l : Int) / 256) = ((UInt8.ofNat (sumL l / 256 % 256)).toNat : Int) := by rw [← sum_byte]; rfl
  have b2 : IntKind.u8.wrap ((sumL l : Int) / 65536) = ((UInt8.ofNat (sumL l / 65536 % 256)).toNat : Int) := by rw [← sum_byte]; rfl
  have b3 : IntKind.u8.wrap ((sumL l : Int) / 16777216) = ((UInt8.ofNat (sumL l / 16777216 % 256)).toNat : Int) := by rw [← sum_byte]; rfl
  obtain ⟨sm, hsm⟩ : ∃ sm, sm = sumL l := ⟨_, rfl⟩
  obtain ⟨SL, hSL⟩ : ∃ x, x = sum4 sm 4 := ⟨_, rfl⟩
  rw [← hsm] at hSs hsl HS4 HS4l b0 b1 b2 b3 ⊢
  rw [← hSL] at HS4 HS4l ⊢
  clear hsm hSL hrow
  generalize ((UInt8.ofNat (sm % 256)).toNat : Int) = y0 at *
  generalize ((UInt8.ofNat (sm / 256 % 256)).toNat : Int) = y1 at *
  generalize ((UInt8.ofNat (sm / 65536 % 256)).toNat : Int) = y2 at *
  generalize ((UInt8.ofNat (sm / 16777216 % 256)).toNat : Int) = y3 at *
  obtain ⟨wb, hwb⟩ : ∃ x, x = w.alloc (.cells #[.int .u8 y0, .int .u8 y1, .int .u8 y2, .int .u8 y3] 5) := ⟨_, rfl⟩
  have bw : Below w.heap.size w wb := by rw [hwb]; exact gal w _
  have HCb := hideg (ownsRow_below HRow.out bw)
  have HNew := hideg (World.news_of_block (w := wb) (B := w.heap.size) (cs := #[.int .u8 y0, .int .u8 y1, .int .u8 y2, .int .u8 y3]) (t := 5) (fr := (0, 0)) (by rw [hwb]; exact heap_alloc_new w _))
  have hbsz : B ≤ wb.heap.size := Nat.le_trans hB bw.size
  have HGb := hideg (gby_of_below bw (Value.slice va n vc).ownBlock)
  have HWB := hideg hwb.symm
  have HN := hideg hn
  clear HRow bw hwb hn
  go_enter Try.func34, Try.ntmps34
  go_wp2_with fail
  refine hSs.mono ?_
  rintro r w' ⟨rfl, rfl⟩
  clear hSs hcv
  go_wp2_with (at_builtin; rw [HWB.out]; refine wpList_append_own_at _ rfl _ _ 35 rfl B 5 ib _ 1 1 Try.underlying35 hib hb0 hb1 hb2 rfl (by decide) _ _ _ rfl HCb.out ⟨w'.heap.size, 0, none⟩ 4 4 [.int .u8 y0, .int .u8 y1, .int .u8 y2, .int .u8 y3] rfl rfl HNew.out (by intro u hu; simp at hu; rcases hu with rfl | rfl | rfl | rfl <;> rfl) (by unfold maxLen; omega) (by omega) hbsz ?_; intro v' w5 hown5 hgrow _ hat; have HC5 := hideg hown5; have HG5 : Hid (wb.grownBy w5 (Value.slice va n vc).ownBlock) := hgrow; clear hown5 hgrow hat)
  go_wp2
  go_ret
  refine ⟨_, rfl, ?_, gby_trans HGb.out HG5.out⟩
  show World.ownsRow _ _ _ _ v' _ _
  first
    | (rw [HS4.out, HS4l.out, ← HN.out]; exact HC5.out)
    | (rw [List.map_append, List.length_append, HS4.out, HS4l.out, ← HN.out]; exact HC5.out)

end Go.Proofs.Yteibdmfcclkjpah
