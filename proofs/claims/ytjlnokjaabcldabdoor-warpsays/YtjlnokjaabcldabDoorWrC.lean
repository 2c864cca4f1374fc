/-
  What Fold of the reference answers.
-/
import Derived.Test.YtjlnokjaabcldabDoorWrA
import Derived.Test.YtjlnokjaabcldabDoorRTldS
import Derived.Test.YtjlnokjaabcldabDoorRSml
namespace Go.Proofs.YtjlnokjaabcldabDoor
open Go.RowKit

/-- the error so far -/
def FErr (f : Int → Option Int) (ts : List Int) (n : Int) : Prop := (n = 0 ∧ ∀ s ∈ ts, ∀ v, f s = some v → nearB v) ∨ (n = 5 ∧ ¬ ∀ s ∈ ts, ∀ v, f s = some v → nearB v)
theorem ferr_keep {f : Int → Option Int} {ts : List Int} {n t : Int} (h : FErr f ts n) (ht : ∀ v, f t = some v → nearB v) : FErr f (ts ++ [t]) n := by
  rcases h with ⟨e, h⟩ | ⟨e, h⟩
  · refine .inl ⟨e, fun s hs => ?_⟩
    rw [List.mem_append, List.mem_singleton] at hs
    rcases hs with hs | rfl
    · exact h s hs
    · exact ht
  · exact .inr ⟨e, fun hh => h fun s hs => hh s (by simp [hs])⟩
theorem ferr_far {f : Int → Option Int} {ts : List Int} {t v : Int} (hf : f t = some v) (hv : ¬ nearB v) : FErr f (ts ++ [t]) 5 := .inr ⟨rfl, fun hh => hv (hh t (by simp) v hf)⟩

/-- what is kept while it is asked: the boxes of the messages, of the way and of the error -/
structure FI (w0 : World) (Be : Nat) (lo : Option Addr) (lc : Nat) (l : List (Int × Int × Int)) (how : Int) (f : Int → Option Int) (ts : List Int) (W : World) : Prop where
  c1 : W.cell? ⟨w0.heap.size, 0, none⟩ = some (.slice lo l.length lc)
  c2 : W.cell? ⟨w0.heap.size + 1, 0, none⟩ = some (.int .i64 how)
  c3 : ∃ n, W.cell? ⟨Be, 0, none⟩ = some (.int .i64 n) ∧ FErr f ts n
  fz : W.frozen? ⟨Be, 0, none⟩ = false
  bel : Below w0.heap.size w0 W
  lt : Be < W.heap.size
  gt : w0.heap.size + 1 < Be
theorem FI.low {w0 : World} {Be : Nat} {lo : Option Addr} {lc : Nat} {l : List (Int × Int × Int)} {how : Int} {f : Int → Option Int} {ts : List Int} {W W' : World} {B : Nat} (h : FI w0 Be lo lc l how f ts W) (hB : Be < B) (hb : Below B W W') : FI w0 Be lo lc l how f ts W' := by
  have hgt := h.gt
  refine ⟨?_, ?_, ?_, ?_, h.bel.trans (hb.mono (by omega)), Nat.lt_of_lt_of_le h.lt hb.size, hgt⟩
  · rw [hb.cell (p := ⟨w0.heap.size, 0, none⟩) (by show w0.heap.size < _; omega)]; exact h.c1
  · rw [hb.cell (p := ⟨w0.heap.size + 1, 0, none⟩) (by show w0.heap.size + 1 < _; omega)]; exact h.c2
  · obtain ⟨n, h1, h2⟩ := h.c3
    exact ⟨n, by rw [hb.cell (p := ⟨Be, 0, none⟩) (by show Be < _; omega)]; exact h1, h2⟩
  · rw [World.frozen?_of_block (w := W) (a := ⟨Be, 0, none⟩) (hb.block _ (by show Be < _; omega))]; exact h.fz
theorem FI.put {w0 : World} {Be : Nat} {lo : Option Addr} {lc : Nat} {l : List (Int × Int × Int)} {how : Int} {f : Int → Option Int} {ts ts' : List Int} {W : World} {n : Int} (h : FI w0 Be lo lc l how f ts W) (hn : FErr f ts' n) : FI w0 Be lo lc l how f ts' (W.setCell ⟨Be, 0, none⟩ (.int .i64 n)) := by
  have hb := (Below.refl Be W).setCell (p := ⟨Be, 0, none⟩) (Nat.le_refl _) (.int .i64 n)
  obtain ⟨n0, h1, _⟩ := h.c3
  have hgt := h.gt
  refine ⟨?_, ?_, ⟨n, ?_, hn⟩, ?_, h.bel.trans (hb.mono (by omega)), Nat.lt_of_lt_of_le h.lt hb.size, hgt⟩
  · rw [hb.cell (p := ⟨w0.heap.size, 0, none⟩) (by show w0.heap.size < _; omega)]; exact h.c1
  · rw [hb.cell (p := ⟨w0.heap.size + 1, 0, none⟩) (by show w0.heap.size + 1 < _; omega)]; exact h.c2
  · exact World.cell?_setCell_same _ _ _ h1
  · rw [World.frozen?_setCell]; exact h.fz

set_option maxRecDepth 100000 in
set_option maxHeartbeats 2000000 in
theorem rfold1_any (w0 : World) (Be : Nat) (lo : Option Addr) (lc : Nat) (l : List (Int × Int × Int)) (how : Int) (hh : how = 1 ∨ how = 2 ∨ how = 3) (l4 : l.length ≤ 200) (hg : ∀ p ∈ l, GoodM p) (hL : PcAt w0 lo l) (hT : Tab w0) (ts : List Int) (t : Int) (w : World) (hI : FI w0 Be lo lc l how (mix how l) ts w) :
    Calls Tryd.prog 29 #[.int .i64 t, .pointer (some ⟨w0.heap.size, 0, none⟩), .pointer (some ⟨w0.heap.size + 1, 0, none⟩), .pointer (some ⟨Be, 0, none⟩)] w fun e w' => (∃ x, e = .returned (.tuple #[.int .i64 x, .bool (mix how l t).isSome]) ∧ ∀ y, mix how l t = some y → x = y) ∧ w.grownBy w' (some Be) ∧ FI w0 Be lo lc l how (mix how l) (ts ++ [t]) w' := by
  have hM := Mixed_any lo lc l t how w (hL.below hI.bel) l4 hg hh (hT.low.below hI.bel).tab
  have hnr := fun y W => near_any y W
  have cc1 := hI.c1
  have cc2 := hI.c2
  have hlt := hI.lt
  have HI := hideW (fun W (h : Below w.heap.size w W) => hI.low hlt h)
  unfold mixedT at hM
  clear hL hT hg hI
  cases hf : mix how l t with
  | none =>
    rw [hf] at hM
    simp only [Option.isSome_none, Option.getD_none] at hM
    have HR : Hid (∀ W, Below w.heap.size w W → w.grownBy W (some Be) ∧ FI w0 Be lo lc l how (mix how l) (ts ++ [t]) W) := by
      intro W h
      have hI := HI.out W h
      refine ⟨gby_of_below h _, hI.c1, hI.c2, ?_, hI.fz, hI.bel, hI.lt, hI.gt⟩
      obtain ⟨n, h1, h2⟩ := hI.c3
      exact ⟨n, h1, ferr_keep h2 (fun v hv => by rw [hf] at hv; cases hv)⟩
    clear hf HI
    go_enter Tryd.func29, Tryd.ntmps29
    go_wp2_with fail
    refine hM.mono ?_
    rintro e w1 ⟨rfl, hb1⟩
    clear hM
    go_wp2
    go_ret2
    exact ⟨⟨_, rfl, fun y h => by cases h⟩, HR.out w1 hb1⟩
  | some y =>
    rw [hf] at hM
    simp only [Option.isSome_some, Option.getD_some] at hM
    by_cases hn : nearB y
    · have HR : Hid (∀ W, Below w.heap.size w W → w.grownBy W (some Be) ∧ FI w0 Be lo lc l how (mix how l) (ts ++ [t]) W) := by
        intro W h
        have hI := HI.out W h
        refine ⟨gby_of_below h _, hI.c1, hI.c2, ?_, hI.fz, hI.bel, hI.lt, hI.gt⟩
        obtain ⟨n, h1, h2⟩ := hI.c3
        exact ⟨n, h1, ferr_keep h2 (fun v hv => by rw [hf] at hv; cases hv; exact hn)⟩
      have y0 := nb_yes hn
      clear hf HI hn
      go_enter Tryd.func29, Tryd.ntmps29
      go_wp2_with fail
      refine hM.mono ?_
      rintro e w1 ⟨rfl, hb1⟩
      clear hM
      go_wp2_with (go_at_call 22; refine (hnr _ _).mono ?_; rintro e w' ⟨rfl, rfl⟩; rw [y0])
      go_ret2
      exact ⟨⟨_, rfl, fun z h => by cases h; rfl⟩, HR.out _ (by assumption)⟩
    · have HR : Hid (∀ W, Below w.heap.size w W → (∃ n, W.cell? ⟨Be, 0, none⟩ = some (.int .i64 n)) ∧ W.frozen? ⟨Be, 0, none⟩ = false ∧ w.grownBy (W.setCell ⟨Be, 0, none⟩ (.int .i64 5)) (some Be) ∧ FI w0 Be lo lc l how (mix how l) (ts ++ [t]) (W.setCell ⟨Be, 0, none⟩ (.int .i64 5))) := by
        intro W h
        have hI := HI.out W h
        obtain ⟨n, h1, h2⟩ := hI.c3
        exact ⟨⟨n, h1⟩, hI.fz, gby_trans (gby_of_below h _) (gby_setOne W _ _ _), hI.put (ferr_far hf hn)⟩
      have y0 := nb_no hn
      clear hf HI hn
      go_enter Tryd.func29, Tryd.ntmps29
      go_wp2_with fail
      refine hM.mono ?_
      rintro e w1 ⟨rfl, hb1⟩
      obtain ⟨⟨n, hc3⟩, hfz, R⟩ := HR.out w1 hb1
      have HR2 := hideW R
      clear hM R HR hb1
      have hnr1 := hnr y w1
      go_wp2_with fail
      refine hnr1.mono ?_
      rintro e w1' ⟨rfl, hw1⟩
      have hw1s := hw1.symm
      subst hw1s
      rw [y0]
      clear hw1 hnr1 hnr
      go_wp2
      go_ret2
      exact ⟨⟨_, rfl, fun z h => by cases h; rfl⟩, HR2.out.1, HR2.out.2⟩

set_option maxRecDepth 100000 in
set_option maxHeartbeats 4000000 in
theorem RFold_any (lo : Option Addr) (lc : Nat) (l : List (Int × Int × Int)) (how : Int) (w : World) (hl : PcAt w lo l) (hT : Tab w) :
    Calls Tryd.prog 7 #[.slice lo l.length lc, .int .i64 how] w fun e w' => ∃ n r, FoldAns l how n r ∧ Told3 w w' e n r := by
  have h2 := fun W (h : Below w.heap.size w W) => Messages_any lo lc l W (hl.below h)
  have B0 := bx2_start w (.slice lo l.length lc) (.int .i64 how) 23 3
  rcases lchk_cases l with e2 | ⟨e2, l4, hgd⟩
  · have HC : Hid (FoldAns l how (lchk l) []) := by
      have : cbChk l how = lchk l := by unfold cbChk; rcases e2 with e | e <;> rw [e] <;> rfl
      exact .inl ⟨by rw [this]; rcases e2 with e | e <;> rw [e] <;> decide, this.symm, rfl⟩
    rcases e2 with e | e
    all_goals
      rw [e] at HC
      simp only [e] at h2
      clear e
      go_enter Tryd.func7, Tryd.ntmps7
      go_wp2_with fail
      refine (h2 _ B0.bel).mono ?_
      rintro e w1 ⟨rfl, hb1⟩
      have hb := ptw B0.bel hb1
      clear hb1 B0
      go_wp2
      go_ret2
      exact ⟨_, _, HC.out, _, rfl, World.ownsRow_nil _ _ _ _, hb⟩
  simp only [e2] at h2
  have h3 := fun W => In13_any how W
  cases hh : isHow how with
  | false =>
    have HC : Hid (FoldAns l how 1 []) := by
      have : cbChk l how = 1 := by unfold cbChk; rw [e2, hh]; rfl
      exact .inl ⟨by rw [this]; decide, this.symm, rfl⟩
    rw [hh] at h3
    clear e2 hh hgd
    go_enter Tryd.func7, Tryd.ntmps7
    go_wp2_with fail
    refine (h2 _ B0.bel).mono ?_
    rintro e w1 ⟨rfl, hb1⟩
    have B1 := B0.below hb1
    have cc2 := B1.c2
    have hb := B1.bel
    clear hb1 B0 B1
    go_wp2_with (go_at_call 17; refine (h3 _).mono ?_; rintro e w' ⟨rfl, rfl⟩)
    go_ret2
    exact ⟨_, _, HC.out, _, rfl, World.ownsRow_nil _ _ _ _, by assumption⟩
  | true =>
    have hc0 : cbChk l how = 0 := by unfold cbChk; rw [e2, hh]; rfl
    have hhw : how = 1 ∨ how = 2 ∨ how = 3 := (cbChk_good hc0).2.2.1
    rw [hh] at h3
    have HC0 := hideW hc0
    have HHW := hideW hhw
    have HGD := hideW hgd
    have HL := hideW hl
    have HTb := hideW hT
    clear e2 hh hgd hhw hc0 hl hT
    go_enter Tryd.func7, Tryd.ntmps7
    go_wp2_with fail
    refine (h2 _ B0.bel).mono ?_
    rintro e w1 ⟨rfl, hb1⟩
    have B1 := B0.below hb1
    have cc2 := B1.c2
    clear hb1 B0 h2
    go_wp2_with fail
    refine (h3 _).mono ?_
    rintro e w1' ⟨rfl, hw1⟩
    have hw1s := hw1.symm
    subst hw1s
    clear hw1 h3
    have hal := pal w1 (.cells #[.int .i64 0] 25)
    have B2 := B1.below hal
    have cc1 := B2.c1
    have hI2 : FI w w1.heap.size lo lc l how (mix how l) [] (w1.alloc (.cells #[.int .i64 0] 25)) := by
      refine ⟨B2.c1, B2.c2, ⟨0, by simp, .inl ⟨rfl, fun s hs => by simp at hs⟩⟩, frozen_of_row _ _ 0 _ _ (heap_alloc_new w1 _), B2.bel, by simp, B1.lt⟩
    have hsz2 : w1.heap.size < (w1.alloc (.cells #[.int .i64 0] 25)).heap.size := by simp
    have hmt := mailTurns_any lo lc l (w1.alloc (.cells #[.int .i64 0] 25)) (HL.out.below B2.bel) l4
    have hmf : ∀ (fn : Fn) (first cap : Array Value) (w : World), (Instr.makeFunc fn first cap).run Tryd.prog w = .ok (.func fn first cap) w := fun _ _ _ _ => rfl
    clear hal
    go_wp2_with fail
    generalize w1.alloc (.cells #[.int .i64 0] 25) = w2 at *
    refine hmt.mono ?_
    rintro e w3 ⟨v3, rfl, hown3, _, hb3⟩
    have hI3 := hI2.low hsz2 hb3
    have hlt3 : w1.heap.size < w3.heap.size := hI3.lt
    have hown3' : w3.ownsRow w2.heap.size 3 1 v3 (turnsOf l).length ((turnsOf l).map (Value.int .i64)) := by rw [turnsOf_length]; exact hown3
    have hA8 : (turnsOf l).length ≤ 800 := by rw [turnsOf_length]; omega
    obtain ⟨A, hA⟩ : ∃ A, A = turnsOf l := ⟨_, rfl⟩
    rw [← hA] at hown3' hA8
    have HA := hideW hA
    obtain ⟨co, cc, rfl, hbd⟩ := rbounds_own_fr hown3' hA8
    have hp : ∀ ts t wq, FI w w1.heap.size lo lc l how (mix how l) ts wq → w3.grownBy wq (some w1.heap.size) → Calls Tryd.prog 29 (#[.int .i64 t] ++ #[.pointer (some ⟨w.heap.size, 0, none⟩), .pointer (some ⟨w.heap.size + 1, 0, none⟩), .pointer (some ⟨w1.heap.size, 0, none⟩)]) wq fun e w' => (∃ x, e = .returned (.tuple #[.int .i64 x, .bool (mix how l t).isSome]) ∧ ∀ y, mix how l t = some y → x = y) ∧ wq.grownBy w' (some w1.heap.size) ∧ FI w w1.heap.size lo lc l how (mix how l) (ts ++ [t]) w' :=
      fun ts t wq hI _ => rfold1_any w w1.heap.size lo lc l how HHW.out l4 HGD.out HL.out HTb.out ts t wq hI
    have htl := told_st w1.heap.size (FI w w1.heap.size lo lc l how (mix how l)) 29 _ (mix how l) (enters_of Tryd.func29 (by kernel_rfl) rfl) w3 hlt3 (fun ts wq w' h hb => h.low hlt3 hb) hI3 hp co A.length cc A hA8 hbd
    have hs3 : w.heap.size ≤ w3.heap.size := hI3.bel.size
    clear hp hown3 hown3' hmt hbd hI2 hI3 B1 B2 cc1 cc2 hb3 hsz2 hA
    go_wp2_with fail
    refine htl.mono ?_
    rintro e w4 ⟨v4, S, out, rfl, hO, hTl, ho4, _, hI4⟩
    have hMT : MTurns S (mix how l) := mix_turns fun x hx => (hO.mem x).2 (by rw [HA.out]; exact hx)
    have hnear := tl_near_iff hO hMT hTl (fun x hx => by
      rw [HA.out] at hx
      obtain ⟨p, hp, h⟩ := turnsOf_mem hx
      have := (HGD.out p hp).1
      rcases h with rfl | rfl
      · exact this.1
      · exact this.2.1)
    obtain ⟨n, hc3, hfe⟩ := hI4.c3
    have hb4 := hI4.bel
    have R4 := owns_base2 ho4 hs3
    have hol : out.length ≤ 1000 := by have := hTl.len; have := hO.len; omega
    have HMI : Hid (∀ n r, FitIs out n r → FoldAns l how n r) := fun n r h => .inr ⟨HC0.out, S, out, by rw [← HA.out]; exact hO, hTl, h⟩
    clear htl hI4 ho4 hMT hO hTl hs3 hA8
    rcases hfe with ⟨rfl, hall⟩ | ⟨rfl, hall⟩
    · have hsm := small_any w.heap.size v4 out w4 R4 (hnear.2 hall) hol
      clear hnear hall R4
      go_wp2_with fail
      refine hsm.mono ?_
      rintro e w5 ⟨n, r, v5, hF, rfl, ho5, hw5⟩
      have hw5s := hw5.symm
      subst hw5s
      have HC := hideW (HMI.out n r hF)
      clear hF hsm hw5
      go_wp2
      go_ret2
      exact ⟨n, r, HC.out, v5, rfl, ho5, hb4⟩
    · have HC := hideW (HMI.out 5 [] (.inl ⟨fun h => hall (hnear.1 h), rfl, rfl⟩))
      clear hnear hall R4
      go_wp2
      go_quiet (fail)
      go_wp2
      go_ret2
      exact ⟨_, _, HC.out, _, rfl, World.ownsRow_nil _ _ _ _, below_drewN hb4 _⟩

end Go.Proofs.YtjlnokjaabcldabDoor
