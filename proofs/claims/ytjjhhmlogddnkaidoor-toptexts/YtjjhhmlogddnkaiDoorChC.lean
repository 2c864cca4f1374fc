/-
  What spread of the program's states does: at the end the least prices are told, each with the ride by which one came.
-/
import Derived.Test.YtjjhhmlogddnkaiDoorChB
import Derived.Test.YtjjhhmlogddnkaiDoorHeldB
import Derived.Shelf.Abstract
namespace Go.Proofs.YtjjhhmlogddnkaiDoor
open Go.RowKit

theorem RdOne.gby {w w' : World} {b n : Nat} {M : Mp} (hM : MapAt w b n M) (hg : w.grownBy w' (some b)) {rb o : Nat} {r : Ri} (h : RdOne w rb o r) : RdOne w' rb o r :=
  ⟨hM.cell hg h.c0, hM.cell hg h.c1, hM.cell hg h.c2, hM.cell hg h.c3, hM.cell hg h.c4, hM.cell hg h.c5⟩
theorem GBx.gby {w W W' : World} {B b n : Nat} {M : Mp} {g : Gr} {la ea : Option Addr} {lc ec : Nat} (hM : MapAt W b n M) (hg : W.grownBy W' (some b)) (h : GBx w W B g la ea lc ec) : W'.cell? ⟨B, 0, none⟩ = some (.int .i64 g.hor) ∧ W'.cell? ⟨B, 1, none⟩ = some (.slice la g.lives.length lc) ∧ W'.cell? ⟨B, 2, none⟩ = some (.slice ea g.edges.length ec) := ⟨hM.cell hg h.c0, hM.cell hg h.c1, hM.cell hg h.c2⟩

/-- the rides that are left, in a slot: i taken, m left -/
def RSl (rb cap : Nat) (l : List Ri) (u : Value) (i m : Nat) : Prop := i + m = l.length ∧ ∃ c ao, u = .slice ao m c ∧ i + c = cap ∧ (0 < m → ao = some ⟨rb, i * 6, none⟩)

theorem rides_lie {w : World} {base : Nat} {v : Value} {l : List Ri} (h : w.ownsRow base 68 6 v l.length (encRs l)) : ∃ rb cap, RSl rb cap l v 0 l.length ∧ l.length ≤ cap ∧ cap ≤ maxLen ∧ (l ≠ [] → rb < w.heap.size) ∧ ∀ j, j < l.length → RdOne w rb (j * 6) (l.getD j ri0) := by
  have h' := h
  rcases h.2 with ⟨rfl, h0⟩ | ⟨g, cap, cur, rfl, hb, hh, h3, h4, h5, h6⟩
  · have : l = [] := List.eq_nil_of_length_eq_zero h0
    subst this
    exact ⟨0, 0, ⟨rfl, 0, none, rfl, rfl, fun h => by simp at h⟩, Nat.le_refl _, Nat.zero_le _, fun h => absurd rfl h, fun j hj => by simp at hj⟩
  · refine ⟨g, cap, ⟨by omega, cap, _, rfl, by omega, fun _ => by simp⟩, h3, h4, fun _ => (Array.getElem?_eq_some_iff.1 hh).1, fun j hj => ?_⟩
    obtain ⟨f0, f1, f2, f3, f4, f5⟩ := encRs_get l j hj
    refine ⟨?_, ?_, ?_, ?_, ?_, ?_⟩
    · rw [h'.cellAt (j * 6) (by omega)]; exact f0
    · rw [h'.cellAt (j * 6 + 1) (by omega)]; exact f1
    · rw [h'.cellAt (j * 6 + 2) (by omega)]; exact f2
    · rw [h'.cellAt (j * 6 + 3) (by omega)]; exact f3
    · rw [h'.cellAt (j * 6 + 4) (by omega)]; exact f4
    · rw [h'.cellAt (j * 6 + 5) (by omega)]; exact f5

set_option maxRecDepth 100000 in
set_option maxHeartbeats 1000000 in
theorem spread_any (g : Gr) (la ea : Option Addr) (lc ec : Nat) (F : Int → Int → Option Int) (pr : Ri → Int) (s0 : Int) (fv : FuncId) (eg : ∀ args w, (callFunc fv args).run Tryd.prog w = .ok (.enter fv args) w) (b n : Nat) (M0 : Mp) (w : World) (hG : GAt w la ea g) (hR : Right g) (hF : FOk g F s0) (hM : MapAt w b n M0) (hn : n ≤ 200) (hs0 : 0 ≤ s0 ∧ s0 < g.hor)
    (hM0 : ∀ v t, (M0 v t).map (·.1) = F v t) (hpr : PrOk g pr) (hPb : ∀ v t p, Pd g F pr v t p → -1000000 ≤ p ∧ p ≤ 1000000)
    (hfv : ∀ r W, Calls Tryd.prog fv #[rideV r] W fun res w' => res = .returned (.int .i64 (pr r)) ∧ Below W.heap.size W w') :
    Calls Tryd.prog 45 #[.map (some b), .agg #[.int .i64 g.hor, .slice la g.lives.length lc, .slice ea g.edges.length ec], .int .i64 s0, .func (.func fv) #[] #[]] w fun res w' => (∃ v, res = .returned v) ∧ (∃ n' M, MapAt w' b n' M ∧ SpE g F pr M) ∧ w.grownBy w' (some b) := by
  obtain ⟨w1, hw1⟩ : ∃ x, x = w.alloc (.cells #[.int .i64 g.hor, .slice la g.lives.length lc, .slice ea g.edges.length ec] 25) := ⟨_, rfl⟩
  have B0 : GBx w w1 w.heap.size g la ea lc ec := by rw [hw1]; exact gbx_start w g la ea lc ec 25
  have hhor := hR.hor
  have hlv := hR.lvs
  have g0 := B0.c0
  have g1 := B0.c1
  have g2 := B0.c2
  have hw1s := hw1.symm
  have hRd := Rides_any g la ea lc ec w1 (hG.below B0.bel) hR
  have hll : (ridesF g).length ≤ 3000 := Nat.le_trans (ridesTo_len g _) (Nat.le_trans (Nat.mul_le_mul (show g.hor.toNat ≤ 100 by omega) hR.eds) (by omega))
  have HRt := hideg hR
  have HF := hideg hF
  have HPr := hideg hpr
  have HPb := hideg hPb
  have HFv := hideg hfv
  have HG0 := hideg hG
  have HM0 := hideg hM
  have HI0 : Hid (SpI g F pr s0 s0 (s0 - 1) 0 0 M0) := SpI.start hF hM0
  have HB0 := hideg B0
  clear hR hF hpr hPb hfv hG hM hM0 hw1 B0
  go_enter Tryd.func45, Tryd.ntmps45
  go_wp2_with fail
  refine hRd.mono ?_
  rintro r w2 ⟨u, rfl, hu2, hb2⟩
  have HB2 := hideg (HB0.out.below hb2)
  obtain ⟨rb, cap, hRS, hcap, hcapM, hrb, hRo⟩ := rides_lie hu2
  have HRo := hideg hRo
  have HG2 := hideg (HG0.out.below HB2.out.bel)
  have HM2 := hideg (HM0.out.below HB2.out.bel)
  have HOk : Hid (∀ r ∈ ridesF g, RideOk g r) := fun r hr => mem_rides HRt.out hr
  have HTk := hideg (fun now (k i : Nat) M (h : SpI g F pr s0 now now k i M) (hi : i < (ridesF g).length) hd => h.take HRt.out HF.out hi hd)
  have HNx := hideg (fun now (i : Nat) M (h : SpI g F pr s0 now now g.lives.length i M) hd => h.next HRt.out HF.out hd)
  have HMem : Hid (∀ (i : Nat) (hi : i < (ridesF g).length), (ridesF g)[i] ∈ ridesF g) := fun i hi => List.getElem_mem hi
  generalize hrl : ridesF g = rides at hRS hcap hRo HRo HOk HTk HNx HMem hll hrb
  clear hRd hb2 hu2 hRo g0 g1 g2 HB0 HM0 HG0 hw1s
  have HRl := hideg hrl
  clear hrl
  go_wp2_with fail
  go_loopw [8, 9] (fun u x wr => ∃ (i m nn : Nat) (now : Int) (M : Mp), RSl rb cap rides u i m ∧ x = .int .i64 now ∧ s0 ≤ now ∧ now ≤ g.hor ∧ nn ≤ n + 12 * (now - s0).toNat + i ∧ MapAt wr b nn M ∧ SpI g F pr s0 now (now - 1) 0 i M ∧ w2.grownBy wr (some b)) (fun _ x _ => (g.hor - intOf x).toNat)
  case atStart => exact ⟨0, rides.length, n, s0, M0, hRS, rfl, by omega, by omega, by omega, HM2.out, HI0.out, gby_refl _ _⟩
  case round =>
    clear hRS
    obtain ⟨i, m, nn, now, M, hRS, rfl, hnow0, hnow1, hnn, hMk, hI, hg⟩ := hrel
    obtain ⟨him, c, ao, rfl, hic, hao⟩ := hRS
    obtain ⟨g0, g1, g2⟩ := GBx.gby HM2.out hg HB2.out
    by_cases hlt : now < g.hor
    · have hww : IntKind.i64.wrap (now + 1) = now + 1 := wrap_nj _ (by omega) (by omega)
      have hWt := waitTill_any g la ea lc ec b nn M now wr (HM2.out.gat hg HG2.out) HRt.out hMk (by omega) (by omega)
      have HI := hideg (hI.waits g.lives.length).turn
      have HGr := hideg hg
      clear hI hMk hg
      generalize waitM g now M g.lives.length = M1 at HI hWt
      clear M
      go_wp2_with fail
      refine hWt.mono ?_
      rintro r w3 ⟨⟨vv, rfl⟩, hM3, hg3⟩
      have HG3 := hideg (gby_trans HGr.out hg3)
      have HM3 := hideg (hM3.mono (show nn + g.lives.length ≤ n + 12 * (now + 1 - s0).toNat + i by omega))
      clear hWt hM3 hg3 g0 g1 g2 HGr
      go_wp2_with fail
      go_loopw [8] (fun u wq => ∃ (i m : Nat) (M : Mp), RSl rb cap rides u i m ∧ MapAt wq b (n + 12 * (now + 1 - s0).toNat + i) M ∧ SpI g F pr s0 now now g.lives.length i M ∧ w2.grownBy wq (some b)) (fun u _ => match u with | .slice _ m _ => m | _ => 0)
      case atStart => exact ⟨i, m, M1, ⟨him, c, ao, rfl, hic, hao⟩, HM3.out, HI.out, HG3.out⟩
      case round =>
        clear hao hic him HM3 HI HG3 hnn
        obtain ⟨i, m, M, ⟨him, c, ao, rfl, hic, hao⟩, hMq, hI, hg⟩ := hrel
        by_cases hm : 0 < m
        · have hi : i < rides.length := by omega
          have e := hao hm
          subst e
          have hgd : rides.getD i ri0 = rides[i] := by rw [List.getD_eq_getElem?_getD, List.getElem?_eq_getElem hi]; rfl
          have hRo := RdOne.gby HM2.out hg (HRo.out i hi)
          rw [hgd] at hRo
          have hok := HOk.out _ (HMem.out i hi)
          have hprr := HPr.out _ (by rw [HRl.out]; exact HMem.out i hi)
          have hTk := HTk.out now g.lives.length i M hI hi
          have HNx1 := hideg (fun (h : now < rides[i].2.1) => HNx.out now i M hI (fun _ => h))
          have hmi : ((m : Int) > 0) := by omega
          clear hgd hao
          generalize rides[i] = rr at *
          obtain ⟨E, d, a, e, ar, cc⟩ := rr
          have ha0 := hok.a0
          have hb0 := hok.b0
          have hd0 := hok.d0
          have hd1 := hok.lt
          have hd2 := hok.hor
          simp only at ha0 hb0 hd0 hd1 hd2 hTk hRo
          have c0 := hRo.c0
          have c1 := hRo.c1
          have c2 := hRo.c2
          have c3 := hRo.c3
          have c4 := hRo.c4
          have c5 := hRo.c5
          simp only at c0 c1 c2 c3 c4 c5
          clear hok hRo
          by_cases hdn : d ≤ now
          · have ddn : decide (d ≤ now) = true := by simpa using hdn
            have hT := hTk hdn
            have hcl := fun W => HFv.out (E, d, a, e, ar, cc) W
            simp only [rideV] at hcl
            have hxb : ∀ x, M a d = some x → -1000000 ≤ x.1 ∧ x.1 ≤ 1000000 := fun x hx => HPb.out _ _ _ (hI.snd _ _ _ hx)
            have hCt : ∀ W, Below wr.heap.size wr W → True := fun _ _ => trivial
            generalize pr (E, d, a, e, ar, cc) = pp at *
            have HTa := hideg (fun W (h : Below wr.heap.size wr W) => take_any b _ M (E, d, a, e, ar, cc) pp W (hMq.below h) (by omega) ⟨wi_small (by simp only; omega) (by simp only; omega), wi_small (by simp only; omega) (by simp only; omega), wi_small (by simp only; omega) (by simp only; omega), wi_small (by simp only; omega) (by simp only; omega)⟩ hprr hxb)
            have HGr : Hid (∀ W W', Below wr.heap.size wr W → W.grownBy W' (some b) → w2.grownBy W' (some b)) := fun W W' h h' => gby_trans (gby_trans hg (gby_of_below h _)) h'
            have HT := hideg hT
            have hne : Nonempty (HeldIn wr) := ⟨⟨_, Below.refl _ _⟩⟩
            have lrb : rb < wr.heap.size := Nat.lt_of_lt_of_le (hrb (fun h => by rw [h] at hi; simp at hi)) hg.size
            have f0 := fun s : HeldIn wr => (s.h.cell (p := ⟨rb, i * 6, none⟩) lrb).trans c0
            have f1 := fun s : HeldIn wr => (s.h.cell (p := ⟨rb, i * 6 + 1, none⟩) lrb).trans c1
            have f2 := fun s : HeldIn wr => (s.h.cell (p := ⟨rb, i * 6 + 2, none⟩) lrb).trans c2
            have f3 := fun s : HeldIn wr => (s.h.cell (p := ⟨rb, i * 6 + 3, none⟩) lrb).trans c3
            have f4 := fun s : HeldIn wr => (s.h.cell (p := ⟨rb, i * 6 + 4, none⟩) lrb).trans c4
            have f5 := fun s : HeldIn wr => (s.h.cell (p := ⟨rb, i * 6 + 5, none⟩) lrb).trans c5
            clear hTk hT hI hMq hg hxb HNx1 hprr
            go_wp2_with fail
            refine wp_region_held_back _ (Below.refl _ _) (by kernel_rfl) (by simp) (by kernel_rfl) (by kernel_rfl) (by kernel_rfl) ?_
            simp only [List.pop_toArray, List.dropLast, List.back!_toArray, List.getLast!]
            repeat (go_big_quiet_step ((go_at_fn fv; exact held_of (hcl _))))
            refine wpQuiet_nil ?_
            rintro _ ⟨s, rfl⟩
            refine back_last (fun K hK => ?_)
            go_simp
            refine (HTa.out s.w s.h).mono ?_
            rintro r w5 ⟨⟨v5, rfl⟩, hM5, hg5⟩
            refine hK.out _ _ ?_
            have HM5 := hideg hM5
            have HG5 := hideg (HGr.out _ _ s.h hg5)
            clear hM5 hg5 hK K f0 f1 f2 f3 f4 f5 hne c0 c1 c2 c3 c4 c5 HTa HGr hcl hCt
            clear s
            by_cases hc1 : c = 1
            · have hm1 : m = 1 := by omega
              subst hc1
              subst hm1
              go_wp2
              go_roundw
              case rel => exact ⟨i + 1, 0, _, ⟨by omega, 0, _, rfl, by omega, fun h => absurd h (Nat.lt_irrefl _)⟩, HM5.out.mono (by omega), HT.out, HG5.out⟩
              case measure => simp
            · have hcm : m ≤ c := by omega
              have hc1' : ¬ (c : Int) = 1 := by omega
              go_wp2
              go_roundw
              case rel => exact ⟨i + 1, m - 1, _, ⟨by omega, c - 1, _, rfl, by omega, fun _ => by simp⟩, HM5.out.mono (by omega), HT.out, HG5.out⟩
              case measure => simp; omega
          · have ddn : decide (d ≤ now) = false := by simpa using hdn
            have HN := hideg (HNx1.out (by simp only; omega))
            have HM5 := hideg hMq
            have HG5 := hideg hg
            clear hTk hI hMq hg HNx1 hprr HTk
            go_wp2
            go_roundw
            case rel => exact ⟨i, m, _, now + 1, M, ⟨him, c, _, rfl, hic, fun _ => rfl⟩, rfl, by omega, by omega, Nat.le_refl _, HM5.out, HN.out, HG5.out⟩
            case measure => simp [intOf]; omega
        · have hm0 : m = 0 := by omega
          subst hm0
          have HN := hideg (HNx.out now i M hI (fun hi => by omega))
          have HM5 := hideg hMq
          have HG5 := hideg hg
          clear hI hMq hg HTk hao
          go_wp2
          go_roundw
          case rel => exact ⟨i, 0, _, now + 1, M, ⟨him, c, _, rfl, hic, fun h => absurd h (Nat.lt_irrefl _)⟩, rfl, by omega, by omega, Nat.le_refl _, HM5.out, HN.out, HG5.out⟩
          case measure => simp [intOf]; omega
    · have e : now = g.hor := by omega
      subst e
      have HE := hideg (hI.fin HRt.out HF.out)
      have HM5 := hideg hMk
      have HG5 := hideg (gby_trans (gby_of_below HB2.out.bel (some b)) hg)
      clear hI hMk hg
      go_wp2_with fail
      refine bodyPost_end (results_none rfl _ _ _) rfl ⟨⟨_, rfl⟩, ⟨nn, M, HM5.out, HE.out⟩, HG5.out⟩

end Go.Proofs.YtjjhhmlogddnkaiDoor
