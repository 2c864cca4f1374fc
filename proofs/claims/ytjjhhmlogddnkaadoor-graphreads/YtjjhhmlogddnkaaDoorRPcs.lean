/-
  What Pieces of the reference answers.
-/
import Derived.Test.YtjjhhmlogddnkaaDoorRNum
namespace Go.Proofs.YtjjhhmlogddnkaaDoor
open Go.RowKit

theorem Tryd.infoStr : (Tryd.prog.info? 9).map (fun i => (i.zero, i.size, i.bytes)) = some (some (.string ⟨#[]⟩), 1, 16) := by kernel_rfl
theorem take_byte (s : ByteArray) (k : Nat) (h : k < s.size) : s.data.toList.take (k + 1) = s.data.toList.take k ++ [s[k]] := by
  have h' : k < s.data.toList.length := by rw [Array.length_toList]; exact h
  rw [List.take_succ_eq_append_getElem h', byte_at s k h h']
theorem one_byte (s : ByteArray) (k : Nat) (h : k < s.size) (a : ByteArray) : (a ++ s.extract k (k + 1)).data.toList = a.data.toList ++ [s[k]] := by
  rw [ByteArray.data_append, Array.toList_append, ByteArray.data_extract]
  congr 1
  have h' : k < s.data.toList.length := by rw [Array.length_toList]; exact h
  rw [Array.toList_extract, ← byte_at s k h h', List.extract_eq_take_drop, show k + 1 - k = 1 by omega, List.drop_eq_getElem_cons h']
  rfl

set_option linter.unusedSimpArgs false in
set_option maxHeartbeats 4000000 in
set_option maxRecDepth 100000 in
theorem Pieces_big (s : ByteArray) (c : UInt8) (w : World) (hs : s.size ≤ 8796093022000) :
    Calls Tryd.prog 29 #[.string s, .int .u8 (c.toNat : Nat)] w fun e w' => ∃ (gb cap : Nat) (ws : List ByteArray), ws.map (fun s => s.data.toList) = sp c s.data.toList ∧ e = .returned (.slice (some ⟨gb, 0, none⟩) ws.length cap) ∧ w'.ownsRow w.heap.size 9 1 (.slice (some ⟨gb, 0, none⟩) ws.length cap) ws.length (ws.map Value.string) ∧ Below w.heap.size w w' := by
  obtain ⟨i0, hi, hz0, hz1, hz2⟩ := info_parts Tryd.infoStr
  have hsz : s.data.toList.length = s.size := by rw [Array.length_toList]; rfl
  have HSZ := hideg hsz
  clear hsz
  go_enter Tryd.func29, Tryd.ntmps29
  go_wp2
  go_loopw [5, 6] (fun v i wr => ∃ (k gb cap : Nat) (ws : List ByteArray), k ≤ s.size ∧ i = .int .i64 k ∧ ws.map (fun s => s.data.toList) = sp c (s.data.toList.take k) ∧ v = .slice (some ⟨gb, 0, none⟩) ws.length cap ∧ wr.ownsRow w.heap.size 9 1 (.slice (some ⟨gb, 0, none⟩) ws.length cap) ws.length (ws.map Value.string) ∧ Below w.heap.size w wr) (fun _ i _ => s.size - (intOf i).toNat)
  case atStart => exact ⟨0, w.heap.size, 1, [⟨#[]⟩], Nat.zero_le _, rfl, rfl, rfl, World.ownsRow_lit w #[.string ⟨#[]⟩] 1 (Nat.le_refl _) (by unfold maxLen; omega) rfl, gal w _⟩
  case round =>
    obtain ⟨k, gb, cap, ws, hk, rfl, hws, rfl, hown, hb⟩ := hrel
    have HW := hideg hws
    have hB := hb.size
    clear hws
    have hwl : ws.length ≤ 8796093022001 := by
      have h1 := congrArg List.length HW.out
      have h2 := sp_length_le c (s.data.toList.take k)
      rw [List.length_map] at h1
      rw [List.length_take] at h2
      omega
    by_cases hlt : k < s.size
    · have i1 : (k : Int) < (s.size : Int) := by omega
      have HT := hideg (take_byte s k hlt)
      by_cases hc : s[k] = c
      · have HW2 : Hid ((ws ++ [ByteArray.mk #[]]).map (fun s => s.data.toList) = sp c (s.data.toList.take (k + 1))) := by
          show _ = _
          rw [HT.out, hc, sp_snoc_hit, List.map_append, HW.out]; rfl
        have hc' : (s[k].toNat : Int) = (c.toNat : Int) := by rw [hc]
        clear hc
        go_wp2_with (at_builtin; refine wpList_append_lies _ rfl _ _ 69 rfl w.heap.size 9 i0 (.string ⟨#[]⟩) 1 16 Tryd.underlying69 hi hz0 hz1 hz2 rfl (by decide) _ _ _ rfl (World.ownsRow.alloc (w := wr) hown _) ⟨wr.heap.size, 0, none⟩ 1 1 [.string ⟨#[]⟩] rfl rfl ?c1 ?c2 (by decide) ?c3 ?c4 ?c5 (wr.heap.size + 1) ?c6 ?_)
        case c1 => exact World.news_of_block (cs := #[.string ⟨#[]⟩]) (t := 9) (fr := (0, 0)) (heap_alloc_new wr _)
        case c2 => intro u hu; simp at hu; subst hu; rfl
        case c3 => unfold maxLen; omega
        case c4 => omega
        case c5 => simp; omega
        case c6 => simp
        intro gg cap1 w3 hown2 hgrow hat hltg
        have HO2 : Hid (w3.ownsRow w.heap.size 9 1 (.slice (some ⟨gg, 0, none⟩) (ws ++ [ByteArray.mk #[]]).length cap1) (ws ++ [ByteArray.mk #[]]).length ((ws ++ [ByteArray.mk #[]]).map Value.string)) := by
          show World.ownsRow _ _ _ _ _ _ _
          rw [List.length_append, List.map_append]; exact hown2
        have HB2 := hideg ((hb.alloc hB (.cells #[.string ⟨#[]⟩] 9)).grown hgrow (by simp; omega) (fun j hj => (hown.lt j hj).1))
        clear hown hown2 hgrow hat hltg
        go_wp2
        go_roundw
        case rel => exact ⟨k + 1, gg, cap1, ws ++ [ByteArray.mk #[]], by omega, by go_num, HW2.out, by simp, HO2.out, HB2.out⟩
        case measure => simp [intOf]; omega
      · obtain ⟨M, a, hM⟩ : ∃ M a, ws = M ++ [a] := by
          rcases List.eq_nil_or_concat ws with q | ⟨M, a, q⟩
          · have := HW.out; rw [q] at this; exact absurd this.symm (sp_ne _ _)
          · exact ⟨M, a, by rw [q, List.concat_eq_append]⟩
        subst hM
        have hlm : (M ++ [a]).length = M.length + 1 := by simp
        have HW2 : Hid ((M ++ [a ++ s.extract k (k + 1)]).map (fun s => s.data.toList) = sp c (s.data.toList.take (k + 1))) := by
          show _ = _
          rw [HT.out, sp_snoc_miss hc _ (M.map (fun s => s.data.toList)) a.data.toList (by rw [← HW.out, List.map_append]; rfl), List.map_append]
          simp only [List.map_cons, List.map_nil, one_byte s k hlt]
        have hc' : ¬ (s[k].toNat : Int) = (c.toNat : Int) := fun q => hc (UInt8.toNat_inj.1 (by omega))
        rw [hlm] at hown hwl ⊢
        have c0 : wr.cell? ⟨gb, M.length, none⟩ = some (.string a) := by rw [hown.cellAt _ (by omega)]; simp
        have fz := hown.frozenAt M.length
        have hst := (hown.stored M.length (.string (a ++ s.extract k (k + 1))))
        have HO2 : Hid ((wr.setCell ⟨gb, M.length, none⟩ (.string (a ++ s.extract k (k + 1)))).ownsRow w.heap.size 9 1 (.slice (some ⟨gb, 0, none⟩) (M ++ [a ++ s.extract k (k + 1)]).length cap) (M ++ [a ++ s.extract k (k + 1)]).length ((M ++ [a ++ s.extract k (k + 1)]).map Value.string)) := by
          show World.ownsRow _ _ _ _ _ _ _
          have e1 : (M ++ [a ++ s.extract k (k + 1)]).length = M.length + 1 := by simp
          have e2 : ((M ++ [a]).map Value.string).set M.length (.string (a ++ s.extract k (k + 1))) = (M ++ [a ++ s.extract k (k + 1)]).map Value.string := by simp
          rw [e1, ← e2]
          exact hst.1
        have HB2 := hideg (hb.grown hst.2 hB (fun j hj => (hown.lt j hj).1))
        have j1 : ((M.length + 1 : Nat) : Int) - 1 = (M.length : Int) := by omega
        have j2 : (M.length : Int) < ((M.length + 1 : Nat) : Int) := by omega
        have j2' : (M.length : Int) < (M.length : Int) + 1 := by omega
        have j3 : (0 : Int) ≤ (M.length : Int) := by omega
        have j4 : IntKind.i64.wrap (M.length : Int) = (M.length : Int) := wrap_small _ (by omega) (by omega)
        have j5 : IntKind.i64.wrap ((k : Int) + 1) = (k : Int) + 1 := wrap_small _ (by omega) (by omega)
        have j6 : ((k : Int) + 1).toNat = k + 1 := by omega
        have j7 : (k : Int) + 1 ≤ (s.size : Int) := by omega
        have j8 : (k : Int) ≤ (k : Int) + 1 := by omega
        have j9 : ¬ 9223372036854775807 < a.size + (min (k + 1) s.size - k) := by
          have h1 := sp_mem_le c (s.data.toList.take k) a.data.toList (by rw [← HW.out, List.map_append]; simp)
          rw [List.length_take] at h1
          have h2 : a.data.toList.length = a.size := by rw [Array.length_toList]; rfl
          omega
        clear hst hown hc hlm
        go_wp2_with fail
        refine wp_region_noPanic ?_
        refine wp_region_back (S := fun w' => w'.cell? ⟨gb, M.length, none⟩ = some (.string a)) (by kernel_rfl) (by simp) (by kernel_rfl) (by kernel_rfl) c0 (fun hHeld => ?_)
        simp only [List.pop_toArray, List.dropLast, List.back!_toArray, List.getLast!]
        refine take_lit (i := 0) (v := ?_) rfl (by kernel_rfl) (by kernel_rfl) (by kernel_rfl) (fun _ _ _ h => h) (Or.inl ⟨by rfl, ?hy0⟩) (by assumption) ?_
        case hy0 => (intro w hSw; (try dsimp only at hSw); go_simp; try with_reducible rfl)
        try simp only [Act.put, List.setIfInBounds_toArray, List.set_cons_zero, List.set_cons_succ]
        refine take_lit (i := 1) (v := ?_) rfl (by kernel_rfl) (by kernel_rfl) (by kernel_rfl) (fun _ _ _ h => h) (Or.inl ⟨by rfl, ?hy1⟩) (by assumption) ?_
        case hy1 => (intro w hSw; (try dsimp only at hSw); go_simp; try with_reducible rfl)
        try simp only [Act.put, List.setIfInBounds_toArray, List.set_cons_zero, List.set_cons_succ]
        refine take_lit (i := 2) (v := ?_) rfl (by kernel_rfl) (by kernel_rfl) (by kernel_rfl) (fun _ _ _ h => h) (Or.inl ⟨by rfl, ?hy2⟩) (by assumption) ?_
        case hy2 => (intro w hSw; (try dsimp only at hSw); go_simp; try with_reducible rfl)
        try simp only [Act.put, List.setIfInBounds_toArray, List.set_cons_zero, List.set_cons_succ]
        refine take_lit (i := 3) (v := ?_) rfl (by kernel_rfl) (by kernel_rfl) (by kernel_rfl) (fun _ _ _ h => h) (Or.inl ⟨by rfl, ?hy3⟩) (by assumption) ?_
        case hy3 => (intro w hSw; (try dsimp only at hSw); go_simp; try with_reducible rfl)
        try simp only [Act.put, List.setIfInBounds_toArray, List.set_cons_zero, List.set_cons_succ]
        refine take_lit (i := 4) (v := ?_) rfl (by kernel_rfl) (by kernel_rfl) (by kernel_rfl) (fun _ _ _ h => h) (Or.inl ⟨by rfl, ?hy4⟩) (by assumption) ?_
        case hy4 => (intro w hSw; (try dsimp only at hSw); go_simp; try with_reducible rfl)
        try simp only [Act.put, List.setIfInBounds_toArray, List.set_cons_zero, List.set_cons_succ]
        refine take_lit (i := 5) (v := ?_) rfl (by kernel_rfl) (by kernel_rfl) (by kernel_rfl) (fun _ _ _ h => h) (Or.inl ⟨by rfl, ?hy5⟩) (by assumption) ?_
        case hy5 => (intro w hSw; (try dsimp only at hSw); go_simp; try with_reducible rfl)
        try simp only [Act.put, List.setIfInBounds_toArray, List.set_cons_zero, List.set_cons_succ]
        refine take_lit (i := 6) (v := ?_) rfl (by kernel_rfl) (by kernel_rfl) (by kernel_rfl) (fun _ _ _ h => h) (Or.inl ⟨by rfl, ?hy6⟩) (by assumption) ?_
        case hy6 => (intro w hSw; (try dsimp only at hSw); go_simp; try with_reducible rfl)
        try simp only [Act.put, List.setIfInBounds_toArray, List.set_cons_zero, List.set_cons_succ]
        refine take_lit (i := 7) (v := ?_) rfl (by kernel_rfl) (by kernel_rfl) (by kernel_rfl) (fun _ _ _ h => h) (Or.inl ⟨by rfl, ?hy7⟩) (by assumption) ?_
        case hy7 => (intro w hSw; (try dsimp only at hSw); go_simp; try with_reducible rfl)
        try simp only [Act.put, List.setIfInBounds_toArray, List.set_cons_zero, List.set_cons_succ]
        refine take_lit (i := 8) (v := ?_) rfl (by kernel_rfl) (by kernel_rfl) (by kernel_rfl) (fun _ _ _ h => h) (Or.inl ⟨by rfl, ?hy8⟩) (by assumption) ?_
        case hy8 => (intro w hSw; (try dsimp only at hSw); go_simp; try with_reducible rfl)
        try simp only [Act.put, List.setIfInBounds_toArray, List.set_cons_zero, List.set_cons_succ]
        refine take_lit (i := 9) (v := ?_) rfl (by kernel_rfl) (by kernel_rfl) (by kernel_rfl) (fun _ _ _ h => h) (Or.inl ⟨by rfl, ?hy9⟩) (by assumption) ?_
        case hy9 => (intro w hSw; (try dsimp only at hSw); go_simp; try with_reducible rfl)
        try simp only [Act.put, List.setIfInBounds_toArray, List.set_cons_zero, List.set_cons_succ]
        refine take_lit (i := 10) (v := ?_) rfl (by kernel_rfl) (by kernel_rfl) (by kernel_rfl) (fun _ _ _ h => h) (Or.inl ⟨by rfl, ?hy10⟩) (by assumption) ?_
        case hy10 => (intro w hSw; (try dsimp only at hSw); go_simp; try with_reducible rfl)
        try simp only [Act.put, List.setIfInBounds_toArray, List.set_cons_zero, List.set_cons_succ]
        refine take_lit (i := 11) (v := ?_) rfl (by kernel_rfl) (by kernel_rfl) (by kernel_rfl) (fun _ _ _ h => h) (Or.inl ⟨by rfl, ?hy11⟩) (by assumption) ?_
        case hy11 => (intro w hSw; (try dsimp only at hSw); go_simp; try with_reducible rfl)
        try simp only [Act.put, List.setIfInBounds_toArray, List.set_cons_zero, List.set_cons_succ]
        refine take_lit (i := 12) (v := ?_) rfl (by kernel_rfl) (by kernel_rfl) (by kernel_rfl) (fun _ _ _ h => h) (Or.inl ⟨by rfl, ?hy12⟩) (by assumption) ?_
        case hy12 => (intro w hSw; (try dsimp only at hSw); go_simp; try with_reducible rfl)
        try simp only [Act.put, List.setIfInBounds_toArray, List.set_cons_zero, List.set_cons_succ]
        refine wpAnyH_done (by kernel_rfl) ?_ _
        refine back_last (fun K hK => ?_)
        clear hHeld
        go_simp
        refine hK.out _ _ (NoPanic.normal ?_)
        clear hK K c0 fz
        go_wp2
        go_roundw
        case rel => exact ⟨k + 1, gb, cap, M ++ [a ++ s.extract k (k + 1)], by omega, by go_num, HW2.out, by simp, HO2.out.drew, HB2.out.drew⟩
        case measure => simp [intOf]; omega
    · have hke : k = s.size := by omega
      subst hke
      have ht : s.data.toList.take s.size = s.data.toList := List.take_of_length_le (by rw [HSZ.out]; exact Nat.le_refl _)
      rw [ht] at HW
      clear ht
      go_wp2
      go_ret
      exact ⟨gb, cap, ws, HW.out, rfl, hown, hb⟩

theorem Pieces_any (s : ByteArray) (c : UInt8) (w : World) (hs : s.size ≤ 8192) :
    Calls Tryd.prog 29 #[.string s, .int .u8 (c.toNat : Nat)] w fun e w' => ∃ (gb cap : Nat) (ws : List ByteArray), ws.map (fun s => s.data.toList) = sp c s.data.toList ∧ e = .returned (.slice (some ⟨gb, 0, none⟩) ws.length cap) ∧ w'.ownsRow w.heap.size 9 1 (.slice (some ⟨gb, 0, none⟩) ws.length cap) ws.length (ws.map Value.string) ∧ Below w.heap.size w w' :=
  Pieces_big s c w (by omega)

end Go.Proofs.YtjjhhmlogddnkaaDoor
