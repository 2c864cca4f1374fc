/-
  What Digits, Numbers and Pieces of the reference answer.
-/
import Derived.Test.YtjjhhmlogddnkaaDoorPNum
import Derived.Test.YtjjhhmlogddnkaaDoorGChk
import Derived.Test.YtjjhhmlogddnkaaDoorPop
namespace Go.Proofs.YtjjhhmlogddnkaaDoor
open Go.RowKit

theorem nm_lo {l : List UInt8} {n : Int} (h : nm l = some n) : 0 ≤ n := (nm_some h).2.1

set_option maxHeartbeats 2000000 in
set_option maxRecDepth 100000 in
theorem Digits_any (s : ByteArray) (w : World) : Calls Tryd.prog 42 #[.string s] w fun e w' => e = .returned (.int .i64 ((nm s.data.toList).getD (-1))) ∧ w' = w := by
  have hsz : s.data.toList.length = s.size := by rw [Array.length_toList]; rfl
  have HSZ := hideg hsz
  clear hsz
  go_enter Tryd.func42, Tryd.ntmps42
  go_wp2
  go_loopw [3, 4] (fun n i wr => ∃ k : Nat, k ≤ s.size ∧ k ≤ 5 ∧ i = .int .i64 k ∧ n = .int .i64 (nv 0 (s.data.toList.take k) : Nat) ∧ (∀ b ∈ s.data.toList.take k, dgB b = true) ∧ wr = w) (fun _ i _ => 5 - (intOf i).toNat)
  case atStart => exact ⟨0, Nat.zero_le _, by omega, rfl, rfl, by simp, rfl⟩
  case round =>
    obtain ⟨k, hk, hk5, rfl, rfl, hall, rfl⟩ := hrel
    have HA := hideg hall
    clear hall
    by_cases hlt : k < s.size ∧ k < 5
    · obtain ⟨hlt, hl5⟩ := hlt
      have i1 : (k : Int) < (s.size : Int) := by omega
      have i2 : (k : Int) < 5 := by omega
      have HV := hideg (nvs s k hlt)
      have HV2 : Hid (nv 0 (s.data.toList.take k) ≤ 99999) := by
        have h1 := nv_lt _ HA.out
        have h2 : (s.data.toList.take k).length ≤ 5 := by simp; omega
        have h3 : 10 ^ (s.data.toList.take k).length ≤ 10 ^ 5 := Nat.pow_le_pow_right (by decide) h2
        show _ ≤ _
        omega
      by_cases hg : dgB s[k] = true
      · have hg2 := (dgB_iff _).1 hg
        have g1 : (48 : Int) ≤ (s[k].toNat : Int) := by omega
        have g2 : (s[k].toNat : Int) ≤ 57 := by omega
        have HA2 := hideg (alls s k hlt HA.out hg)
        have g4 : IntKind.i64.wrap (((nv 0 (s.data.toList.take k) : Nat) : Int) * 10) = ((nv 0 (s.data.toList.take k) : Nat) : Int) * 10 := wrap_small _ (by omega) (by have := HV2.out; omega)
        have g5 : IntKind.i64.wrap (((nv 0 (s.data.toList.take k) : Nat) : Int) * 10 + (s[k].toNat : Int)) = ((nv 0 (s.data.toList.take k) : Nat) : Int) * 10 + (s[k].toNat : Int) := wrap_small _ (by omega) (by have := HV2.out; omega)
        have g6 : IntKind.i64.wrap (((nv 0 (s.data.toList.take k) : Nat) : Int) * 10 + (s[k].toNat : Int) - 48) = ((nv 0 (s.data.toList.take k) : Nat) : Int) * 10 + (s[k].toNat : Int) - 48 := wrap_small _ (by omega) (by have := HV2.out; omega)
        clear hg
        go_wp2
        go_roundw
        case rel => exact ⟨k + 1, by omega, by omega, by go_num, by rw [HV.out]; congr 1; omega, HA2.out, trivial⟩
        case measure => simp [intOf]; omega
      · have HN := hideg (nm_none (l := s.data.toList) (fun q => hg (q.2.2.2 _ (byte_in s k hlt))))
        have hg2 : ¬ (48 ≤ s[k].toNat ∧ s[k].toNat ≤ 57) := fun q => hg ((dgB_iff _).2 q)
        clear hg
        go_wp2
        all_goals first
          | (exfalso; omega)
          | (rw [HN.out]; go_ret; exact ⟨rfl, rfl⟩)
    · have hend : ¬ ((k : Int) < (s.size : Int)) ∨ ((k : Int) < (s.size : Int) ∧ ¬ ((k : Int) < 5)) := by omega
      by_cases hl : 1 ≤ s.size ∧ s.size ≤ 4
      · have hke : k = s.size := by omega
        subst hke
        have ht : s.data.toList.take s.size = s.data.toList := List.take_of_length_le (by rw [HSZ.out]; exact Nat.le_refl _)
        rw [ht] at HA ⊢
        have hp : 0 < s.size := by omega
        have H0 : Hid (s.data.toList.head? = some (s[0]'hp)) := by
          show _ = _
          rw [List.head?_eq_getElem?, List.getElem?_eq_getElem (by rw [HSZ.out]; exact hp)]; rfl
        have hin : inR (s.size : Int) 1 4 = true := by unfold inR; simp; omega
        clear ht hend hlt
        by_cases hz : s.data.toList.head? = some 48 ∧ 1 < s.data.toList.length
        · have HN := hideg (nm_none (l := s.data.toList) (fun k => k.2.2.1 hz))
          have e0 : s[0] = 48 := by have := H0.out; rw [hz.1] at this; exact (Option.some.inj this).symm
          have e1 : (1 : Int) < (s.size : Int) := by have := hz.2; rw [HSZ.out] at this; omega
          clear hz
          go_wp2_with (go_at_call 9; refine (In_any _ _ _ _).mono ?_; rintro e w' ⟨rfl, rfl⟩; rw [hin])
          rw [HN.out]
          go_ret
          exact ⟨rfl, rfl⟩
        · have HN := hideg (nm_is (l := s.data.toList) ⟨by rw [HSZ.out]; omega, by rw [HSZ.out]; omega, hz, HA.out⟩)
          have hd : ¬ (1 : Int) < (s.size : Int) ∨ ((1 : Int) < (s.size : Int) ∧ ¬ (s[0].toNat : Int) = 48) := by
            by_cases e : 1 < s.size
            · refine .inr ⟨by omega, fun q => hz ⟨?_, by rw [HSZ.out]; exact e⟩⟩
              rw [H0.out]
              congr 1
              exact UInt8.toNat_inj.1 (by have : (48 : UInt8).toNat = 48 := rfl; omega)
            · exact .inl (by omega)
          clear hz
          rcases hd with e0 | ⟨e0, e1⟩
          all_goals
            go_wp2_with (go_at_call 9; refine (In_any _ _ _ _).mono ?_; rintro e w' ⟨rfl, rfl⟩; rw [hin])
            rw [HN.out]
            go_ret
            exact ⟨rfl, rfl⟩
      · have HN := hideg (nm_none (l := s.data.toList) (fun q => hl (by have := q.1; have := q.2.1; rw [HSZ.out] at *; omega)))
        have hin : inR (s.size : Int) 1 4 = false := by unfold inR; simp; omega
        clear hl hlt
        rcases hend with e0 | ⟨e0, e1⟩
        all_goals
          go_wp2_with (go_at_call 9; refine (In_any _ _ _ _).mono ?_; rintro e w' ⟨rfl, rfl⟩; rw [hin])
          rw [HN.out]
          go_ret
          exact ⟨rfl, rfl⟩

set_option maxHeartbeats 2000000 in
set_option maxRecDepth 100000 in
theorem Numbers_any (ao : Option Addr) (cap : Nat) (ws : List ByteArray) (w : World) (hW : WdAt w ao ws) (hn : ws.length ≤ 100000) :
    Calls Tryd.prog 30 #[.slice ao ws.length cap] w fun e w' => ∃ v, e = .returned (.tuple #[v, .bool (nmw ws).isSome]) ∧ w'.ownsRow w.heap.size 3 1 v ((nmw ws).getD []).length (((nmw ws).getD []).map (Value.int .i64)) ∧ Below w.heap.size w w' := by
  obtain ⟨i0, hi, hz0, hz1, hz2⟩ := info_parts Tryd.infoInt
  go_enter Tryd.func30, Tryd.ntmps30
  go_wp2
  go_loopw [4, 5] (fun v i wr => ∃ (k : Nat) (l : List Int), k ≤ ws.length ∧ i = .int .i64 k ∧ nmw (ws.take k) = some l ∧ l.length = k ∧ wr.ownsRow w.heap.size 3 1 v k (l.map (Value.int .i64)) ∧ Below w.heap.size w wr) (fun _ i _ => ws.length - (intOf i).toNat)
  case atStart => exact ⟨0, [], Nat.zero_le _, rfl, rfl, rfl, World.ownsRow_nil _ _ _ _, Below.refl _ _⟩
  case round =>
    obtain ⟨k, l, hk, rfl, hl, hll, hown, hb⟩ := hrel
    have HL := hideg hl
    have HLL := hideg hll
    have hsz := hb.size
    clear hl hll
    by_cases hlt : k < ws.length
    · rcases hW with h0 | ⟨b, off, rfl, hbl, hc⟩
      · subst h0; simp at hlt
      have c0 := (hb.cell (p := ⟨b, off + k, none⟩) hbl).trans (hc k hlt)
      have HS := hideg (nmw_succ hlt)
      have hx : Hid (∀ W, Calls Tryd.prog 42 #[.string ws[k]] W fun e w' => e = .returned (.int .i64 ((nm ws[k].data.toList).getD (-1))) ∧ w' = W) := fun W => Digits_any _ W
      have i1 : (k : Int) < (ws.length : Int) := by omega
      have i2 : (0 : Int) ≤ (k : Int) := by omega
      generalize ws[k] = s at *
      cases hm : nm s.data.toList with
      | none =>
        have HN := hideg (HS.out.2 hm)
        simp only [hm, Option.getD_none] at hx
        go_wp2_with (go_at_call 42; refine (hx.out _).mono ?_; rintro e w1 ⟨rfl, rfl⟩)
        rw [HN.out]
        go_ret2
        exact ⟨_, rfl, World.ownsRow_nil _ _ _ _, hb⟩
      | some n =>
        have HN := hideg (HS.out.1 l n HL.out hm)
        have hn0 := nm_lo hm
        simp only [hm, Option.getD_some] at hx
        go_wp2_with fail
        refine (hx.out _).mono ?_
        rintro e w1 ⟨rfl, rfl⟩
        go_wp2_with fail
        refine (hx.out _).mono ?_
        rintro e w2 ⟨rfl, rfl⟩
        clear c0 hc hm
        go_wp2_with (at_builtin; refine wpList_append_lies _ rfl _ _ 71 rfl w.heap.size 3 i0 (.int .i64 0) 1 8 Tryd.underlying71 hi hz0 hz1 hz2 rfl (by decide) _ _ _ rfl (World.ownsRow.alloc (w := w2) hown _) ⟨w2.heap.size, 0, none⟩ 1 1 [.int .i64 n] rfl rfl ?c1 ?c2 (by decide) ?c3 ?c4 ?c5 (w2.heap.size + 1) ?c6 ?_)
        case c1 => exact World.news_of_block (cs := #[.int .i64 n]) (t := 3) (fr := (0, 0)) (heap_alloc_new w2 _)
        case c2 => intro u hu; simp at hu; subst hu; rfl
        case c3 => unfold maxLen; omega
        case c4 => omega
        case c5 => simp; omega
        case c6 => simp
        intro gg cap1 w3 hown2 hgrow hat hltg
        have HO2 := hideg hown2
        have HB2 := hideg ((hb.alloc hsz (.cells #[.int .i64 n] 3)).grown hgrow (by simp; omega) (fun j hj => (hown.lt j hj).1))
        clear hown hown2 hgrow hat hltg
        go_wp2
        go_roundw
        case rel => exact ⟨k + 1, l ++ [n], by omega, by go_num, HN.out, by simp [HLL.out], by rw [List.map_append]; exact HO2.out, HB2.out⟩
        case measure => simp [intOf]; omega
    · have hke : k = ws.length := by omega
      subst hke
      rw [List.take_length] at HL
      go_wp2
      rw [HL.out]
      go_ret2
      exact ⟨_, rfl, by simpa [HLL.out] using hown, hb⟩

end Go.Proofs.YtjjhhmlogddnkaaDoor
