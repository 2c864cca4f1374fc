/-
  What Encode of the program answers.
-/
import Derived.Test.YteibdmfcclkjpahPkA
import Derived.Test.YteibdmfcclkjpahGby
namespace Go.Proofs.Yteibdmfcclkjpah
open Go.RowKit

theorem bytes_hi {x : Nat} (h : x < 65536) : IntKind.u8.wrap ((x : Int) / 256) = ((UInt8.ofNat (x / 256)).toNat : Int) := by
  rw [wrap_u8 _ (by omega) (by omega), UInt8.toNat_ofNat']
  omega
theorem bytes_lo {x : Nat} : IntKind.u8.wrap (x : Int) = ((UInt8.ofNat (x % 256)).toNat : Int) := by
  rw [UInt8.toNat_ofNat']
  simp [IntKind.wrap, IntKind.bits, IntKind.signed]

set_option maxRecDepth 100000 in
set_option maxHeartbeats 1000000 in
theorem wNums_any (B : Nat) (l : List UInt8) (v : Value) (n : Nat) (ns : List Int) (NB : Nat) (w : World) (hB : B ≤ w.heap.size) (hn : n = l.length) (hnl : n ≤ 100000) (hrow : w.ownsRow B 5 1 v n (l.map bv))
    (hns : w.heap[NB]? = some (.cells (ns.map (Value.int .i64)).toArray 3 (0, 0))) (h4 : ns.length ≤ 4) (hsm : ∀ x ∈ ns, 0 ≤ x ∧ x < 65536) :
    Calls Try.prog 33 #[v, .slice (some ⟨NB, 0, none⟩) ns.length ns.length] w fun r w' => ∃ v', r = .returned v' ∧ w'.ownsRow B 5 1 v' (l ++ codeL ns).length ((l ++ codeL ns).map bv) ∧ w.grownBy w' v.ownBlock := by
  obtain ⟨ib, hib, hb0, hb1, hb2⟩ := info_parts Try.infoByteP
  have hNne : some NB ≠ v.ownBlock := fun e => row_ne hrow hns (by decide) e.symm
  have hNlt := heap_ltg hns
  have HCell : Hid (∀ W k (hk : k < ns.length), w.grownBy W v.ownBlock → W.cell? ⟨NB, k, none⟩ = some (.int .i64 ns[k])) := by
    intro W k hk hg
    have h1 : W.heap[NB]? = some (.cells (ns.map (Value.int .i64)).toArray 3 (0, 0)) := by rw [hg.block NB hNlt hNne]; exact hns
    rw [Lib.cell_of_heap h1]
    simp [hk]
  have HSm := hideg hsm
  have HRow := hideg hrow
  have HBl := hideg (fun j (h : v.ownBlock = some j) => hrow.lt j h)
  obtain ⟨va, vc, rfl, _, _⟩ := row_form hrow
  subst hn
  clear hrow hns hNne hNlt hsm
  go_enter Try.func33, Try.ntmps33
  go_wp2_with fail
  go_loopw [0, 9] (fun o i wr => ∃ k : Nat, k ≤ ns.length ∧ i = .int .i64 (k : Int) ∧ wr.ownsRow B 5 1 o (l ++ codeL (ns.take k)).length ((l ++ codeL (ns.take k)).map bv) ∧ w.grownBy wr (Value.slice va l.length vc).ownBlock ∧ (o.ownBlock = (Value.slice va l.length vc).ownBlock ∨ ∀ j, o.ownBlock = some j → w.heap.size ≤ j)) (fun _ i _ => ns.length - (intOf i).toNat)
  case atStart => exact ⟨0, Nat.zero_le _, rfl, by simpa [codeL] using HRow.out, gby_refl _ _, .inl rfl⟩
  case round =>
    clear HRow
    obtain ⟨k, hk, rfl, hC, hg, ho⟩ := hrel
    have hcl := codeL_len (ns.take k)
    rw [List.length_take] at hcl
    have hcl2 : (l ++ codeL (ns.take k)).length ≤ 200000 := by rw [List.length_append]; omega
    obtain ⟨qa, qc, rfl, _, _⟩ := row_form hC
    by_cases hlt : k < ns.length
    · have hki : (k : Int) < (ns.length : Int) := by omega
      have hkw : IntKind.i64.wrap ((k : Int) + 1) = (k : Int) + 1 := wrap_q _ (by omega) (by omega)
      have c0 := HCell.out wr k hlt hg
      have HS : Hid (l ++ codeL (ns.take (k + 1)) = (l ++ codeL (ns.take k)) ++ code1 ns[k]) := by show _ = _; rw [codeL_take hlt, List.append_assoc]
      have hsm := HSm.out ns[k] (List.getElem_mem hlt)
      generalize ns[k] = nn at *
      obtain ⟨x, rfl⟩ : ∃ x : Nat, nn = (x : Int) := ⟨nn.toNat, by omega⟩
      have hx : x < 65536 := by omega
      have hhi := bytes_hi hx
      have hlo := bytes_lo (x := x)
      have HCV := hideg (code1_nat x)
      generalize ((UInt8.ofNat (x / 256)).toNat : Int) = h1v at *
      generalize ((UInt8.ofNat (x % 256)).toNat : Int) = h2v at *
      generalize l ++ codeL (ns.take k) = A at *
      obtain ⟨m, hm⟩ : ∃ m, m = A.length := ⟨_, rfl⟩
      rw [← hm] at hC hcl2 ho ⊢
      obtain ⟨wb, hwb⟩ : ∃ x, x = wr.alloc (.cells #[.int .u8 h1v, .int .u8 h2v] 5) := ⟨_, rfl⟩
      have bw : Below wr.heap.size wr wb := by rw [hwb]; exact gal wr _
      have HCb := hideg (ownsRow_below hC bw)
      have HNew := hideg (World.news_of_block (w := wb) (B := wr.heap.size) (cs := #[.int .u8 h1v, .int .u8 h2v]) (t := 5) (fr := (0, 0)) (by rw [hwb]; exact heap_alloc_new wr _))
      have hbsz : B ≤ wb.heap.size := Nat.le_trans hB (Nat.le_trans hg.size bw.size)
      have HGb := hideg (gby_trans hg (gby_of_below bw _))
      have HWB := hideg hwb.symm
      have HO := hideg ho
      have HM := hideg hm
      clear hC bw hwb hg hcl hsm ho hm
      go_wp2_with (at_builtin; rw [HWB.out]; refine wpList_append_own_at _ rfl _ _ 35 rfl B 5 ib _ 1 1 Try.underlying35 hib hb0 hb1 hb2 rfl (by decide) _ _ _ rfl HCb.out ⟨wr.heap.size, 0, none⟩ 2 2 [.int .u8 h1v, .int .u8 h2v] rfl rfl HNew.out (by intro u hu; simp at hu; rcases hu with rfl | rfl <;> rfl) (by unfold maxLen; omega) (by omega) hbsz ?_; intro v' w5 hown5 hgrow _ hat; have HC5 := hideg hown5; have HG5 : Hid (wb.grownBy w5 (Value.slice qa m qc).ownBlock) := hgrow; have HA5 : Hid (v'.ownBlock = (Value.slice qa m qc).ownBlock ∨ v'.ownBlock = some wb.heap.size) := hat; clear hown5 hgrow hat)
      have HC6 : Hid (w5.ownsRow B 5 1 v' (l ++ codeL (ns.take (k + 1))).length ((l ++ codeL (ns.take (k + 1))).map bv)) := by
        show World.ownsRow _ _ _ _ _ _ _
        rw [HS.out, List.map_append, HCV.out, List.length_append, ← HM.out]; exact HC5.out
      have HG6 : Hid (w.grownBy w5 (Value.slice va l.length vc).ownBlock) := by
        have g1 := HGb.out
        have g2 := HG5.out
        refine ⟨g2.os.trans g1.os, g2.tape.trans g1.tape, g2.output.trans g1.output, Nat.le_trans g1.size g2.size, fun j hj hne => ?_⟩
        refine (g2.block j (Nat.lt_of_lt_of_le hj g1.size) ?_).trans (g1.block j hj hne)
        rcases HO.out with h | h
        · rw [h]; exact hne
        · exact fun e => by have := h j e.symm; omega
      have HO6 : Hid (v'.ownBlock = (Value.slice va l.length vc).ownBlock ∨ ∀ j, v'.ownBlock = some j → w.heap.size ≤ j) := by
        rcases HA5.out with h | h
        · rcases HO.out with h2 | h2
          · exact .inl (h.trans h2)
          · exact .inr fun j hj => h2 j (h.symm.trans hj)
        · refine .inr fun j hj => ?_
          rw [h] at hj
          have := HGb.out.size
          have := Option.some.inj hj
          omega
      go_wp2
      go_roundw
      case rel => exact ⟨k + 1, by omega, by go_num, HC6.out, HG6.out, HO6.out⟩
      case measure => simp [intOf]; omega
    · have hkn : ¬ ((k : Int) < (ns.length : Int)) := by omega
      obtain rfl : k = ns.length := by omega
      rw [List.take_length] at hC
      have HC := hideg hC
      rw [List.take_length]
      clear hC hlt hcl hcl2 ho
      obtain ⟨A, hA⟩ : ∃ A, A = l ++ codeL ns := ⟨_, rfl⟩
      rw [← hA] at HC ⊢
      have HA := hideg hA
      clear hA
      go_wp2
      go_ret
      refine ⟨_, rfl, ?_, hg⟩
      show World.ownsRow _ _ _ _ (Value.slice qa A.length qc) _ _
      rw [← List.length_append, ← List.map_append, ← HA.out]
      exact HC.out

end Go.Proofs.Yteibdmfcclkjpah
