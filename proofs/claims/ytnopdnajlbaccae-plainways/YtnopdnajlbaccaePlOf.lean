/-
  What ofAlive and spread of the program tell.
-/
import Derived.Test.YtnopdnajlbaccaeHeldB
import Derived.Test.YtnopdnajlbaccaePlChk
import Derived.Shelf.Abstract
namespace Go.Proofs.Ytnopdnajlbaccae
open Go.RowKit

theorem take_set_succ {x : List Int} {k : Nat} {v : Int} (hk : k < x.length) : (x.set k v).take (k + 1) = x.take k ++ [v] := by
  rw [List.take_succ_eq_append_getElem (by simpa using hk), List.getElem_set_self, List.take_set_of_le (Nat.le_refl _)]

set_option maxRecDepth 100000 in
set_option maxHeartbeats 4000000 in
theorem ofAlive_any (g : Nat) (caps : Array Value) (f : Int → Int) (eg : ∀ args w, (callFunc g args).run Try.prog w = .ok (.enter g args) w) (ao bo : Option Addr) (ca m cb : Nat) (al : List Bool) (w : World) (hA : BsAt w ao al) (h12 : al.length ≤ 12)
    (hf : ∀ (v : Nat) wq, v < al.length → Below w.heap.size w wq → Calls Try.prog g (#[.int .i64 v] ++ caps) wq fun e w' => e = .returned (.int .i64 (f v)) ∧ Below wq.heap.size wq w') :
    Calls Try.prog 31 #[.agg #[.slice ao al.length ca, .slice bo m cb], .func (.func g) #[] caps] w fun e w' => ∃ gb, e = .returned (.slice (some ⟨gb, 0, none⟩) al.length al.length) ∧ Zo w' w.heap.size gb al.length al.length (firstL al f) ∧ Below w.heap.size w w' := by
  obtain ⟨i0, hi, hz0, hz1, hz2⟩ := info_parts Try.infoInt
  have HB := hidep (pal w)
  have HF := hidep hf
  clear hf
  go_enter Try.func31, Try.ntmps31
  go_wp2_with (at_make; refine wpList_make_full _ rfl _ _ 40 rfl w.heap.size 3 i0 (.int .i64 0) 1 Try.underlying40 hi hz0 hz1 .i64 .i64 _ _ al.length rfl rfl rfl rfl (by rw [hz2]; omega) (by unfold maxLen; omega) (by simp) ?_; intro w0 hown0 hgrow0)
  have hb0 : Below w.heap.size w w0 := (HB.out _).grown hgrow0 (by simp) (fun k hk => by cases hk)
  have hs0 : w0.cell? ⟨w.heap.size, 0, none⟩ = some (.slice ao al.length ca) := by rw [hgrow0.cell_far ⟨w.heap.size, 0, none⟩ (by simp) (by simp)]; simp
  have hz0' := hgrow0.size
  simp only [World.size_alloc] at hown0 hz0'
  have HZ : Hid (Zo w0 w.heap.size (w.heap.size + 1) al.length al.length (List.replicate al.length 0)) := by
    have e1 : (madeCells (Value.int .i64 0).cells (al.length * 1)).toList = (List.replicate al.length 0).map (Value.int .i64) := by
      rw [Nat.mul_one]
      show (madeCells #[Value.int .i64 0] al.length).toList = _
      rw [toList_madeCells_one, List.map_replicate]
    rw [e1] at hown0
    exact hown0
  clear hown0 hgrow0
  go_loopw [6, 13] (fun _ i wr => ∃ (k : Nat) (x : List Int), k ≤ al.length ∧ i = .int .i64 k ∧ x.take k = (firstL al f).take k ∧ Zo wr w.heap.size (w.heap.size + 1) al.length al.length x ∧ wr.cell? ⟨w.heap.size, 0, none⟩ = some (.slice ao al.length ca) ∧ Below w.heap.size w wr) (fun _ i _ => al.length - (intOf i).toNat)
  case atStart => exact ⟨0, _, Nat.zero_le _, rfl, by simp, HZ.out, hs0, hb0⟩
  case round =>
    obtain ⟨k, x, hk, rfl, hx, hown, hs, hb⟩ := hrel
    have HX := hidep hx
    have HO := hidep hown
    have hxl := hown.len
    have hz := hb.size
    have hlt1 := hown.lt (w.heap.size + 1) rfl
    clear hx
    by_cases hlt : k < al.length
    · have ck := hown.cell hlt
      have fz := hown.frozenAt k
      rcases hA.below hb with h0 | ⟨b, off, rfl, hbr, hc⟩
      · subst h0; simp at hlt
      have c0 := BsAt.at1 hlt hc
      have hbw : b < w.heap.size := by
        rcases hA with h0 | ⟨b', off', e, h, _⟩
        · subst h0; simp at hlt
        · cases e; exact h
      have hki : (k : Int) < (al.length : Int) := by omega
      have HT := hidep (firstL_take al f k hlt)
      rw [List.getD_eq_getElem?_getD, List.getElem?_eq_getElem hlt, Option.getD_some] at HT
      have HS : Hid (∀ v : Int, Zo (wr.setCell ⟨w.heap.size + 1, k, none⟩ (.int .i64 v)) w.heap.size (w.heap.size + 1) al.length al.length (x.set k v) ∧ Below w.heap.size w (wr.setCell ⟨w.heap.size + 1, k, none⟩ (.int .i64 v))) := fun v => ⟨hown.set k v, hb.setCell (by simp) _⟩
      clear hc hown hA
      cases ea : al[k] with
      | false =>
        rw [ea] at c0 HT
        simp only [Bool.false_eq_true, if_false] at HT
        have HX' : Hid ((x.set k 1099511627776).take (k + 1) = (firstL al f).take (k + 1)) := by show _ = _; rw [take_set_succ (by omega), HX.out, HT.out]
        clear ea
        generalize x.getD k 0 = xk at ck
        go_wp2
        go_roundw
        case rel => exact ⟨k + 1, _, by omega, by go_num, HX'.out, (HS.out _).1, ((gby_set wr _ _ _).cell_far ⟨w.heap.size, 0, none⟩ (by show w.heap.size < _; omega) (by simp)).trans hs, (HS.out _).2⟩
        case measure => simp [intOf]; omega
      | true =>
        rw [ea] at c0 HT
        simp only [if_true] at HT
        have HX' : Hid (((x.set k 1099511627776).set k (f k)).take (k + 1) = (firstL al f).take (k + 1)) := by show _ = _; rw [List.set_set, take_set_succ (by omega), HX.out, HT.out]
        clear ea
        generalize x.getD k 0 = xk at ck
        have hcl := HF.out k (wr.setCell ⟨w.heap.size + 1, k, none⟩ (.int .i64 1099511627776)) hlt (HS.out _).2
        go_wp2_with fail
        refine hcl.mono ?_
        rintro e w2 ⟨rfl, hb2⟩
        have Z2 := (HS.out 1099511627776).1.below hb2
        have q0 := Z2.cell hlt
        have q1 := World.ownsRow.frozenAt Z2 k
        have hs2 : w2.cell? ⟨w.heap.size, 0, none⟩ = some (.slice (some ⟨b, off, none⟩) al.length ca) := by rw [hb2.cell (p := ⟨w.heap.size, 0, none⟩) (by show w.heap.size < (wr.setCell _ _).heap.size; have := (gby_set wr (w.heap.size + 1) k (.int .i64 1099511627776)).size; omega)]; exact ((gby_set wr _ _ _).cell_far ⟨w.heap.size, 0, none⟩ (by show w.heap.size < _; omega) (by simp)).trans hs
        have HZ3 := hidep (Z2.set k (f k))
        have HB3 := hidep ((ptw (HS.out 1099511627776).2 hb2).setCell (p := ⟨w.heap.size + 1, k, none⟩) (by simp) (.int .i64 (f k)))
        have hlt2 := (World.ownsRow.lt Z2 (w.heap.size + 1) rfl).2
        generalize (x.set k 1099511627776).getD k 0 = xk2 at q0
        clear hb2 Z2
        go_wp2
        go_roundw
        case rel => exact ⟨k + 1, _, by omega, by go_num, HX'.out, HZ3.out, ((gby_set w2 _ _ _).cell_far ⟨w.heap.size, 0, none⟩ (by show w.heap.size < _; omega) (by simp)).trans hs2, HB3.out⟩
        case measure => simp [intOf]; omega
    · have hkl : k = al.length := by omega
      have HE : Hid (x = firstL al f) := by
        have h1 := HX.out
        rw [hkl] at h1
        rw [List.take_of_length_le (by omega), List.take_of_length_le (by rw [firstL_length]; omega)] at h1
        exact h1
      go_wp2
      go_ret
      refine ⟨_, rfl, ?_, hb⟩
      rw [← HE.out]; exact HO.out

end Go.Proofs.Ytnopdnajlbaccae
