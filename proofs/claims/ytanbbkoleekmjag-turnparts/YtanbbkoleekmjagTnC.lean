/-
  What Only of the program answers.
-/
import Derived.Test.YtanbbkoleekmjagRPart
import Derived.Test.YtanbbkoleekmjagHeldB
namespace Go.Proofs.Ytanbbkoleekmjag
open Go.RowKit

/-- the new numbers, behind the first k vertices -/
def numL (K : List Bool) (n : Nat) : Nat → List Int
  | 0 => List.replicate n 0
  | k + 1 => if K.getD k false = true then (numL K n k).set k ((oldF K k).length : Int) else numL K n k
theorem numL_len (K : List Bool) (n k : Nat) : (numL K n k).length = n := by
  induction k with
  | zero => simp [numL]
  | succ k ih => rw [numL]; split <;> simp [ih]
theorem numL_get (K : List Bool) (n : Nat) {v k : Nat} (hv : v < k) (hn : v < n) (hk : K.getD v false = true) : (numL K n k).getD v 0 = ((oldF K v).length : Int) := by
  induction k with
  | zero => omega
  | succ k ih =>
    rw [numL]
    by_cases e : v = k
    · subst e
      rw [if_pos hk, List.getD_eq_getElem?_getD, List.getElem?_set_self (by rw [numL_len]; exact hn)]; rfl
    · split
      · rw [List.getD_eq_getElem?_getD, List.getElem?_set_ne (by omega), ← List.getD_eq_getElem?_getD]; exact ih (by omega)
      · exact ih (by omega)

/-- a row of numbers beside it is written into -/
theorem GOwn.besideSet {B b NB n cap : Nat} {w : World} {hor : Int} {vL vE : Value} {x : List Int} {lives : List (Int × Int)} {L : List (Ed × Value)} (h : GOwn B b w hor vL vE lives L) (h' : Zo w B NB n cap x) (j : Nat) (u : Value) : GOwn B b (w.setCell ⟨NB, j, none⟩ u) hor vL vE lives L := by
  obtain ⟨cur, hc⟩ := row_block h' rfl
  refine ⟨?_, h.low, row_set h.lv (row_ne h.lv hc (by decide)), row_set h.ed (row_ne h.ed hc (by decide)), fun p hp => row_set (h.lg p hp) (row_ne (h.lg p hp) hc (by decide)), h.ap⟩
  rw [Below.heap_setCell _ _ _ _ (fun e => by
    simp only at e
    have := h.box
    rw [e, hc] at this
    simp only [Option.some.injEq, Obj.cells.injEq] at this
    exact absurd this.2.1 (by decide))]
  exact h.box
theorem Zo.box {w : World} {B NB n cap : Nat} {x : List Int} (h : Zo w B NB n cap x) : ∃ cur, w.heap[NB]? = some (.cells cur 3 (0, 0)) := row_block h rfl


set_option maxRecDepth 100000 in
set_option maxHeartbeats 1000000 in
theorem tOnly_ok (g : Gr) (K : List Bool) (la ea ka : Option Addr) (lc ec kc : Nat) (w : World) (hG : GAt w la ea g) (h0 : gChk g = 0) (hK : BsAt w ka K) (hl : K.length = g.lives.length) :
    Calls Try.prog 27 #[.agg #[.int .i64 g.hor, .slice la g.lives.length lc, .slice ea g.edges.length ec], .slice ka K.length kc] w fun r w' => ∃ la' ea' lc' ec', r = .returned (.tuple #[.agg #[.int .i64 (partG K g).hor, .slice la' (partG K g).lives.length lc', .slice ea' (partG K g).edges.length ec'], .int .i64 0]) ∧ GAt w' la' ea' (partG K g) ∧ Below w.heap.size w w' := by
  have hR := gChk_right h0
  obtain ⟨ii, hii, hi0, hi1, hi2⟩ := info_parts Try.infoIvlT
  obtain ⟨ie, hie, he0, he1, he2⟩ := info_parts Try.infoEdgeT
  obtain ⟨in', hin, hn0, hn1, hn2⟩ := info_parts Try.infoIntT
  have hl12 := hR.lvs
  have he30 := hR.eds
  obtain ⟨H, hH⟩ : ∃ H, g.hor = H := ⟨_, rfl⟩
  obtain ⟨wA, hwA⟩ : ∃ x, x = (w.alloc (.cells #[.int .i64 g.hor, .slice la g.lives.length lc, .slice ea g.edges.length ec] 25)).alloc (.cells #[.int .i64 0, .slice none 0 0, .slice none 0 0] 25) := ⟨_, rfl⟩
  have hsA : wA.heap.size = w.heap.size + 1 + 1 := by rw [hwA]; simp
  have hbA : Below w.heap.size w wA := by rw [hwA]; exact ptg (gal w _) (gal _ _)
  have HGx0 : Hid (∀ W, Below wA.heap.size wA W → W.cell? ⟨w.heap.size, 0, none⟩ = some (.int .i64 H) ∧ W.cell? ⟨w.heap.size, 1, none⟩ = some (.slice la g.lives.length lc) ∧ W.cell? ⟨w.heap.size, 2, none⟩ = some (.slice ea g.edges.length ec) ∧ W.heap[w.heap.size + 1]? = some (.cells #[.int .i64 0, .slice none 0 0, .slice none 0 0] 25 (0, 0)) ∧ GAt W la ea g ∧ BsAt W ka K ∧ Below w.heap.size w W) := by
    intro W hb
    have c : ∀ j x, #[Value.int .i64 g.hor, .slice la g.lives.length lc, .slice ea g.edges.length ec][j]? = some x → W.cell? ⟨w.heap.size, j, none⟩ = some x := by
      intro j x hx
      rw [hb.cell (p := ⟨w.heap.size, j, none⟩) (by simp only; omega), hwA, (gal _ _).cell (p := ⟨w.heap.size, j, none⟩) (by simp)]
      exact new_cell rfl hx
    have hW : Below w.heap.size w W := hbA.trans (hb.mono (by omega))
    refine ⟨(c 0 _ rfl).trans (by simp [hH]), c 1 _ rfl, c 2 _ rfl, ?_, hG.below hW, hK.below hW, hW⟩
    rw [hb.block _ (by omega), hwA]
    have := heap_alloc_new (w.alloc (.cells #[.int .i64 g.hor, .slice la g.lives.length lc, .slice ea g.edges.length ec] 25)) (.cells #[.int .i64 0, .slice none 0 0, .slice none 0 0] 25)
    simpa using this
  have hC := gCheck_any g la ea lc ec wA (hG.below hbA)
  rw [h0, hH] at hC
  have HRt := hideg hR
  have HPg : Hid (partG K g = ⟨H, livF K g.lives K.length, partEs K g g.edges.length⟩) := by show _ = _; unfold partG; rw [hH]
  rw [hH] at hwA
  rw [hH, HPg.out]
  have HWA := hideg hwA.symm
  have HsA := hideg hsA
  have HLb : Hid (∀ b off, la = some ⟨b, off, none⟩ → 0 < g.lives.length → b < w.heap.size) := by
    intro b off e hl
    rcases hG.lv with h | ⟨b', off', e', h1, _⟩
    · rw [h] at hl; simp at hl
    · rw [e] at e'; cases e'; exact h1
  have HEd : Hid (∀ i (h : i < g.edges.length), ∃ eb eof lo lcap, ea = some ⟨eb, eof, none⟩ ∧ ∀ W, Below w.heap.size w W → W.cell? ⟨eb, eof + i * 3, none⟩ = some (.int .i64 g.edges[i].1) ∧ W.cell? ⟨eb, eof + i * 3 + 1, none⟩ = some (.int .i64 g.edges[i].2.1) ∧ W.cell? ⟨eb, eof + i * 3 + 2, none⟩ = some (.slice lo g.edges[i].2.2.length lcap) ∧ LgAt W lo g.edges[i].2.2) := by
    intro i h
    rcases hG.ed with h0 | ⟨eb, eof, rfl, heb, hce⟩
    · rw [h0] at h; simp at h
    · obtain ⟨c0, c1, lo, lcap, c2, hL, _, _⟩ := hce i h
      exact ⟨eb, eof, lo, lcap, rfl, fun W hb => ⟨(hb.cell (p := ⟨eb, eof + i * 3, none⟩) heb).trans c0, (hb.cell (p := ⟨eb, eof + i * 3 + 1, none⟩) heb).trans c1, (hb.cell (p := ⟨eb, eof + i * 3 + 2, none⟩) heb).trans c2, hL.below hb⟩⟩
  have dl : ((K.length : Int) != (g.lives.length : Int)) = false := by simp [hl]
  have HSm : Hid (K.length = g.lives.length) := hl
  have hK12 : K.length ≤ 12 := by omega
  clear hG hR hbA hwA hH h0 hsA hK hl
  go_enter Try.func27, Try.ntmps27
  go_wp2_with fail
  rw [HWA.out]
  refine hC.mono ?_
  rintro r wC ⟨rfl, hbC⟩
  obtain ⟨q0, q1, q2, _⟩ := HGx0.out wC hbC
  obtain ⟨B, hB⟩ : ∃ B, B = wC.heap.size := ⟨_, rfl⟩
  have hsA := HsA.out
  have hwB : w.heap.size + 1 < B := by have := hbC.size; omega
  have HGx : Hid (∀ W, Below B wC W → W.cell? ⟨w.heap.size, 0, none⟩ = some (.int .i64 H) ∧ W.cell? ⟨w.heap.size, 1, none⟩ = some (.slice la g.lives.length lc) ∧ W.cell? ⟨w.heap.size, 2, none⟩ = some (.slice ea g.edges.length ec) ∧ W.heap[w.heap.size + 1]? = some (.cells #[.int .i64 0, .slice none 0 0, .slice none 0 0] 25 (0, 0)) ∧ GAt W la ea g ∧ BsAt W ka K ∧ Below w.heap.size w W) := fun W hb => HGx0.out W (hbC.trans (hb.mono (by have := hbC.size; omega)))
  obtain ⟨w2, hw2⟩ : ∃ x, x = wC.alloc (.cells #[.int .i64 H, .slice none 0 0, .slice none 0 0] 25) := ⟨_, rfl⟩
  have hbA2 : Below B wC w2 := by rw [hw2, hB]; exact gal wC _
  have hG2 : GOwn B B w2 H (.slice none 0 0) (.slice none 0 0) [] [] := ⟨by rw [hw2, hB]; exact heap_alloc_new wC _, Nat.le_refl _, World.ownsRow_nil _ _ _ _, World.ownsRow_nil _ _ _ _, fun p hp => by simp at hp, fun M p h => by simp at h⟩
  have hs2 : w2.heap.size = wC.heap.size + 1 := by rw [hw2]; simp
  have HG2 := hideg hG2
  have HbA2 := hideg hbA2
  have HW2 := hideg hw2.symm
  have HHB := hideg hB
  have hB2 : B ≤ w2.heap.size := by omega
  clear hC hbC HGx0 HWA hG2 hbA2 hw2 hsA HsA hB hs2
  go_wp2_with (at_make; rw [HW2.out]; refine wpList_make_full _ rfl _ _ 30 rfl B 3 in' (.int .i64 0) 1 Try.underlying30 hin hn0 hn1 .i64 .i64 _ _ K.length rfl rfl rfl rfl (by rw [hn2]; omega) (by unfold maxLen; omega) hB2 ?_; intro w3 hown3 hgrow3)
  obtain ⟨NB, hNB⟩ : ∃ NB, NB = w2.heap.size := ⟨_, rfl⟩
  rw [← HHB.out, ← hNB]
  rw [← hNB] at hown3
  have hN3 : Zo w3 B NB K.length K.length (numL K K.length 0) := by
    have e3 : (madeCells (Value.int .i64 0).cells (K.length * 1)).toList = (numL K K.length 0).map (Value.int .i64) := by
      rw [Nat.mul_one]
      show (madeCells #[Value.int .i64 0] K.length).toList = _
      rw [toList_madeCells_one, numL, List.map_replicate]
    rw [e3] at hown3
    exact hown3
  have hb3 : Below w2.heap.size w2 w3 := (Below.refl _ _).grown hgrow3 (Nat.le_refl _) (fun k hk => by cases hk)
  have HG3 := hideg (HG2.out.below hb3)
  have HB3 := hideg (HbA2.out.trans (hb3.mono hB2))
  have HN3 := hideg hN3
  clear q0 q1 q2 HW2 HHB hown3 hgrow3 hN3 hb3 HG2 HbA2 hNB hB2
  go_loopw [35] (fun i wr => ∃ (k : Nat) (vL : Value), k ≤ K.length ∧ i = .int .i64 (k : Int) ∧ GOwn B B wr H vL (.slice none 0 0) (livF K g.lives k) [] ∧ Zo wr B NB K.length K.length (numL K K.length k) ∧ Below B wC wr) (fun i _ => K.length - (intOf i).toNat)
  case atStart => exact ⟨0, _, Nat.zero_le _, rfl, HG3.out, HN3.out, HB3.out⟩
  case round =>
    clear HG3 HB3 HN3
    obtain ⟨k, vL, hk, rfl, hO, hN, hb⟩ := hrel
    obtain ⟨q0, q1, q2, qR, hGA, hKA, hbw⟩ := HGx.out wr hb
    by_cases hlt : k < K.length
    · have hki : (k : Int) < (K.length : Int) := by omega
      have hkw : IntKind.i64.wrap ((k : Int) + 1) = (k : Int) + 1 := wrap_nj _ (by omega) (by omega)
      obtain ⟨kb, kof, rfl, hkb, hkc⟩ : ∃ kb kof, ka = some ⟨kb, kof, none⟩ ∧ kb < wr.heap.size ∧ wr.cell? ⟨kb, kof + k, none⟩ = some (.bool (K.getD k false)) := by
        rcases hKA with h0 | ⟨kb, kof, rfl, h1, h2⟩
        · rw [h0] at hlt; simp at hlt
        · exact ⟨kb, kof, rfl, h1, h2 k hlt⟩
      cases hkk : K.getD k false with
      | false =>
        rw [hkk] at hkc
        have HO2 : Hid (GOwn B B wr H vL (.slice none 0 0) (livF K g.lives (k + 1)) []) := by show GOwn _ _ _ _ _ _ _ _; rw [livF, hkk]; simpa using hO
        have HN2 : Hid (Zo wr B NB K.length K.length (numL K K.length (k + 1))) := by show Zo _ _ _ _ _ _; rw [numL, hkk]; simpa using hN
        have HB2 := hideg hb
        clear hO hN hb hGA hKA hbw qR hkk
        go_wp2
        go_roundw
        case rel => exact ⟨k + 1, _, by omega, by go_num, HO2.out, HN2.out, HB2.out⟩
        case measure => simp [intOf]; omega
      | true =>
        rw [hkk] at hkc
        have hltv : k < g.lives.length := by have := HSm.out; omega
        rcases hGA.lv with h0 | ⟨lb, lof, rfl, hlb, hc⟩
        · rw [h0] at hltv; simp at hltv
        obtain ⟨c0, c1⟩ := IvAt.get hltv hc
        have HLs : Hid (livF K g.lives (k + 1) = livF K g.lives k ++ [(g.lives[k].1, g.lives[k].2)]) := by show _ = _; rw [livF, if_pos hkk, List.getD_eq_getElem?_getD, List.getElem?_eq_getElem hltv]; rfl
        have HOs : Hid (numL K K.length (k + 1) = (numL K K.length k).set k ((livF K g.lives k).length : Int)) := by show _ = _; rw [numL, if_pos hkk, liv_len]
        have hol := old_len K k
        have hll := liv_len K g.lives k
        generalize g.lives[k] = pp at *
        obtain ⟨pf, pt⟩ := pp
        simp only at c0 c1 HLs
        have p1 : wr.cell? ⟨B, 1, none⟩ = some vL := by rw [Lib.cell_of_heap hO.box]; rfl
        have hBl := heap_ltg hO.box
        have hz := Zo.cell hN hlt
        have fz := World.ownsRow.frozenAt hN k
        obtain ⟨va, vc, rfl, _, _⟩ := row_form hO.lv
        generalize hn : (livF K g.lives k).length = n at *
        have hlbB : lb < B := by have := HLb.out lb lof rfl (by omega); omega
        have hne1 : some lb ≠ (Value.slice va n vc).ownBlock := fun e => by have h1 := (hO.lv.lt lb e.symm).1; omega
        have hne0 : some w.heap.size ≠ (Value.slice va n vc).ownBlock := fun e => by have h1 := (hO.lv.lt w.heap.size e.symm).1; omega
        have hltI : (k : Int) < (g.lives.length : Int) := by omega
        have hn12 : n ≤ 12 := by omega
        have hNBl : B ≤ NB := (World.ownsRow.lt hN NB rfl).1
        obtain ⟨ws, hws⟩ : ∃ x, x = wr.setCell ⟨NB, k, none⟩ (.int .i64 (n : Int)) := ⟨_, rfl⟩
        have hbs : Below B wC ws := by rw [hws]; exact hb.setCell (p := ⟨NB, k, none⟩) hNBl _
        have hss : ws.heap.size = wr.heap.size := by rw [hws]; simp [World.setCell]
        have HO := hideg (show GOwn B B ws H (.slice va n vc) (.slice none 0 0) (livF K g.lives k) [] by rw [hws]; exact hO.besideSet hN k _)
        have HN : Hid (Zo ws B NB K.length K.length (numL K K.length (k + 1))) := by show Zo _ _ _ _ _ _; rw [hws, HOs.out]; exact hN.set k (n : Int)
        have HB := hideg hbs
        obtain ⟨_, r1, _, _, hGs, _⟩ := HGx.out ws hbs
        obtain ⟨c0', c1'⟩ : ws.cell? ⟨lb, lof + k * 2, none⟩ = some (.int .i64 pf) ∧ ws.cell? ⟨lb, lof + k * 2 + 1, none⟩ = some (.int .i64 pt) := by
          rw [hws]
          exact ⟨by rw [World.cell?_setCell_far _ _ _ _ (by show NB ≠ lb; omega)]; exact c0, by rw [World.cell?_setCell_far _ _ _ _ (by show NB ≠ lb; omega)]; exact c1⟩
        have p1' : ws.cell? ⟨B, 1, none⟩ = some (.slice va n vc) := by rw [Lib.cell_of_heap HO.out.box]; rfl
        have HWS := hideg hws.symm
        have hlbs : lb < ws.heap.size := by omega
        have hwl : w.heap.size < ws.heap.size := by omega
        have hBl2 : B < ws.heap.size := by omega
        have hBs : B ≤ ws.heap.size := Nat.le_of_lt hBl2
        clear hll hO hN hb hGA hKA hc qR hbw hkk hGs hws hbs hss
        go_wp2_with fail
        rw [HWS.out]
        clear hz fz p1 c0 c1 q0 q1 q2 hkc HWS
        refine wp_region_back (S := fun w' => w'.cell? ⟨B, 1, none⟩ = some (.slice va n vc) ∧ w'.cell? ⟨w.heap.size, 1, none⟩ = some (.slice (some ⟨lb, lof, none⟩) g.lives.length lc) ∧ w'.cell? ⟨lb, lof + k * 2, none⟩ = some (.int .i64 pf) ∧ w'.cell? ⟨lb, lof + k * 2 + 1, none⟩ = some (.int .i64 pt)) (by kernel_rfl) (by simp) (by kernel_rfl) (by kernel_rfl) ⟨p1', r1, c0', c1'⟩ (fun hHeld => ?_)
        simp only [List.pop_toArray, List.dropLast, List.back!_toArray, List.getLast!]
        refine take_lit (i := 0) (v := ?_) rfl (by kernel_rfl) (by kernel_rfl) (by kernel_rfl) (fun _ _ _ h => h) (Or.inl ⟨by rfl, ?hy0⟩) (by assumption) ?_
        case hy0 => (intro w hSw; (try dsimp only at hSw); go_simp; try with_reducible rfl)
        try simp only [Act.put, List.setIfInBounds_toArray, List.set_cons_zero, List.set_cons_succ]
        refine take_lit (i := 1) (v := ?_) rfl (by kernel_rfl) (by kernel_rfl) (by kernel_rfl) (fun _ _ _ h => h) (Or.inl ⟨by rfl, ?hy1⟩) (by assumption) ?_
        case hy1 => (intro w hSw; (try dsimp only at hSw); go_simp; try with_reducible rfl)
        try simp only [Act.put, List.setIfInBounds_toArray, List.set_cons_zero, List.set_cons_succ]
        refine take_lit (i := 2) (v := ?_) rfl (by kernel_rfl) (by kernel_rfl) (by kernel_rfl) (fun _ _ _ h => h) (Or.inl ⟨by rfl, ?hy2⟩) (by assumption) ?_
        case hy2 => (intro w hSw; (try dsimp only at hSw); go_simp; try with_reducible rfl)
        try simp only [Act.put, List.setIfInBounds_toArray, List.set_cons_zero, List.set_cons_succ]
        refine take_lit (i := 3) (v := ?_) rfl (by kernel_rfl) (by kernel_rfl) (by kernel_rfl) (fun _ _ _ h => h) (Or.inl ⟨by rfl, ?hy3⟩) (by assumption) ?_
        case hy3 => (intro w hSw; (try dsimp only at hSw); go_simp; try with_reducible rfl)
        try simp only [Act.put, List.setIfInBounds_toArray, List.set_cons_zero, List.set_cons_succ]
        refine take_lit (i := 4) (v := ?_) rfl (by kernel_rfl) (by kernel_rfl) (by kernel_rfl) (fun _ _ _ h => h) (Or.inl ⟨by rfl, ?hy4⟩) (by assumption) ?_
        case hy4 => (intro w hSw; (try dsimp only at hSw); go_simp; try with_reducible rfl)
        try simp only [Act.put, List.setIfInBounds_toArray, List.set_cons_zero, List.set_cons_succ]
        refine take_lit (i := 5) (v := ?_) rfl (by kernel_rfl) (by kernel_rfl) (by kernel_rfl) (fun _ _ _ h => h) (Or.inl ⟨by rfl, ?hy5⟩) (by assumption) ?_
        case hy5 => (intro w hSw; (try dsimp only at hSw); go_simp; try with_reducible rfl)
        try simp only [Act.put, List.setIfInBounds_toArray, List.set_cons_zero, List.set_cons_succ]
        refine take_lit (i := 6) (v := ?_) rfl (by kernel_rfl) (by kernel_rfl) (by kernel_rfl) (fun _ _ _ h => h) (Or.inl ⟨by rfl, ?hy6⟩) (by assumption) ?_
        case hy6 => (intro w hSw; (try dsimp only at hSw); go_simp; try with_reducible rfl)
        try simp only [Act.put, List.setIfInBounds_toArray, List.set_cons_zero, List.set_cons_succ]
        refine next_lit (i := 7) rfl (by kernel_rfl) (fun KK hK => ?_)
        go_simp
        have hwa : Below ws.heap.size ws (ws.drew.alloc (.cells #[.int .i64 pf, .int .i64 pt] 55)) := (Below.refl _ _).drew.alloc (Nat.le_refl _) _
        have m1 := (hwa.cell (p := ⟨B, 1, none⟩) hBl2).trans p1'
        have m2 := (hwa.cell (p := ⟨w.heap.size, 1, none⟩) hwl).trans r1
        have m3 := (hwa.cell (p := ⟨lb, lof + k * 2, none⟩) hlbs).trans c0'
        have m4 := (hwa.cell (p := ⟨lb, lof + k * 2 + 1, none⟩) hlbs).trans c1'
        refine hK.out _ _ ⟨m1, m2, m3, m4⟩ (fun hHeld => ?_)
        clear hK KK hHeld
        try simp only [Act.put, List.setIfInBounds_toArray, List.set_cons_zero, List.set_cons_succ]
        refine next_lit (i := 8) rfl (by kernel_rfl) (fun KK hK => ?_)
        have hlv0 := ownsRow_below HO.out.lv hwa
        rw [hn] at hlv0
        refine step_append_lies _ (by rfl) _ _ _ (by rfl) B 55 ii _ 2 16 Try.underlying22 hii hi0 hi1 hi2 rfl (by omega) (.slice va n vc) n (encs (livF K g.lives k)) (by rfl) hlv0 ⟨ws.heap.size, 0, none⟩ 1 1 [.int .i64 pf, .int .i64 pt] (by rfl) (by rfl) (World.news_of_block (cs := #[.int .i64 pf, .int .i64 pt]) (t := 55) (fr := (0, 0)) (heap_alloc_new ws.drew _)) (by simp [Value.oneCell']) (by omega) (by unfold maxLen; omega) (by omega) (by simp; omega) (ws.heap.size + 1) (by simp [World.drew]) ?_
        intro gg cap1 w4 hown1 hgrow hat hltg
        have hown2 : w4.ownsRow B 55 2 (.slice (some ⟨gg, 0, none⟩) (n + 1) cap1) ((livF K g.lives k).length + 1) (encs (livF K g.lives k) ++ [.int .i64 pf, .int .i64 pt]) := by rw [hn]; exact hown1
        obtain ⟨hbox4, hG4⟩ := HO.out.life hwa hgrow hown2
        have x1 : w4.cell? ⟨B, 1, none⟩ = some (.slice va n vc) := by rw [Lib.cell_of_heap hbox4]; rfl
        have x2 : w4.cell? ⟨w.heap.size, 1, none⟩ = some (.slice (some ⟨lb, lof, none⟩) g.lives.length lc) := by rw [hgrow.cell_far _ (Nat.lt_of_lt_of_le hwl hwa.size) hne0]; exact m2
        have x3 : w4.cell? ⟨lb, lof + k * 2, none⟩ = some (.int .i64 pf) := by rw [hgrow.cell_far _ (Nat.lt_of_lt_of_le hlbs hwa.size) hne1]; exact m3
        have x4 : w4.cell? ⟨lb, lof + k * 2 + 1, none⟩ = some (.int .i64 pt) := by rw [hgrow.cell_far _ (Nat.lt_of_lt_of_le hlbs hwa.size) hne1]; exact m4
        have fz4 : w4.frozen? ⟨B, 1, none⟩ = false := Lib.frozen_of_heap hbox4 1
        have HB4 := hideg (((HB.out.trans (hwa.mono hBs)).grown hgrow (Nat.le_trans hBs hwa.size) (fun j hj => (hlv0.lt j hj).1)).setCell (p := ⟨B, 1, none⟩) (Nat.le_refl _) (.slice (some ⟨gg, 0, none⟩) (n + 1) cap1))
        have HG4 : Hid (GOwn B B (w4.setCell ⟨B, 1, none⟩ (.slice (some ⟨gg, 0, none⟩) (n + 1) cap1)) H (.slice (some ⟨gg, 0, none⟩) (n + 1) cap1) (.slice none 0 0) (livF K g.lives (k + 1)) []) := by rw [HLs.out]; exact hG4
        have hN4 := row_grown (ownsRow_below HN.out hwa) hlv0 hgrow (by decide)
        have HN4 : Hid (Zo (w4.setCell ⟨B, 1, none⟩ (.slice (some ⟨gg, 0, none⟩) (n + 1) cap1)) B NB K.length K.length (numL K K.length (k + 1))) := row_set (b := B) (j := 1) (u := .slice (some ⟨gg, 0, none⟩) (n + 1) cap1) hN4 (row_ne hN4 hbox4 (by decide))
        refine hK.out _ _ ⟨x1, x2, x3, x4⟩ (fun hHeld => ?_)
        clear hK KK hwa m1 m2 m3 m4 hgrow hown1 hown2 hbox4 hG4 hat hltg hlv0 hN4
        try simp only [Act.put, List.setIfInBounds_toArray, List.set_cons_zero, List.set_cons_succ]
        refine take_lit (i := 9) (v := ?_) rfl (by kernel_rfl) (by kernel_rfl) (by kernel_rfl) (fun _ _ _ h => h) (Or.inl ⟨by rfl, ?hy9⟩) (by assumption) ?_
        case hy9 => (intro w hSw; (try dsimp only at hSw); go_simp; try with_reducible rfl)
        try simp only [Act.put, List.setIfInBounds_toArray, List.set_cons_zero, List.set_cons_succ]
        refine wpAnyH_done (by kernel_rfl) ?_ _
        refine back_last (fun KK hK => ?_)
        clear hHeld
        go_simp
        refine hK.out _ _ ?_
        clear hK KK x1 x2 x3 x4 fz4 HO HN HB p1' c0' c1' r1
        go_wp2
        go_roundw
        case rel => exact ⟨k + 1, _, by omega, by go_num, HG4.out, HN4.out, HB4.out⟩
        case measure => simp [intOf]; omega
    · have hkn : ¬ ((k : Int) < (K.length : Int)) := by omega
      obtain rfl : k = K.length := by omega
      have HO := hideg hO
      have HN := hideg hN
      have HB := hideg hb
      clear hO hN hb hGA hKA qR hbw hlt q0 q1
      obtain ⟨wo, hwo⟩ : ∃ x, x = wr := ⟨_, rfl⟩
      subst hwo
      go_wp2_with fail
      clear q2
      go_loopw [61] (fun i wr => ∃ (k : Nat) (vE : Value) (L : List (Ed × Value)), k ≤ g.edges.length ∧ i = .int .i64 (k : Int) ∧ GOwn B B wr H vL vE (livF K g.lives K.length) L ∧ L.map (·.1) = partEs K g k ∧ Zo wr B NB K.length K.length (numL K K.length K.length) ∧ Below B wC wr) (fun i _ => g.edges.length - (intOf i).toNat)
      case atStart => exact ⟨0, _, [], Nat.zero_le _, rfl, HO.out, rfl, HN.out, HB.out⟩
      case round =>
        clear HO HB HN
        obtain ⟨i, vE, L, hi, rfl, hO, hLm, hN, hb⟩ := hrel
        obtain ⟨q0, q1, q2, qR, hGA, hKA, hbw⟩ := HGx.out wr hb
        by_cases hlt2 : i < g.edges.length
        · have hii2 : (i : Int) < (g.edges.length : Int) := by omega
          have hiw : IntKind.i64.wrap ((i : Int) + 1) = (i : Int) + 1 := wrap_nj _ (by omega) (by omega)
          obtain ⟨eb, eof, lo, lcap, rfl, hed⟩ := HEd.out i hlt2
          obtain ⟨c0, c1, c2, _⟩ := hed wr hbw
          have hel := HRt.out.ends _ (List.getElem_mem hlt2)
          have HSu := hideg (partEs_succ (K := K) hlt2)
          have HLen := hideg (partEs_len K g i hi)
          have HLg : Hid (∀ W, Below B wC W → LgAt W lo g.edges[i].2.2) := fun W hW => (hed W (HGx.out W hW).2.2.2.2.2.2).2.2.2
          generalize g.edges[i] = e at *
          obtain ⟨A, C, legs⟩ := e
          simp only at c0 c1 c2 hel HSu HLg
          obtain ⟨a, rfl⟩ : ∃ a : Nat, A = (a : Int) := ⟨A.toNat, by omega⟩
          obtain ⟨c, rfl⟩ : ∃ c : Nat, C = (c : Int) := ⟨C.toNat, by omega⟩
          have hak : a < K.length := by have := HSm.out; omega
          have hck : c < K.length := by have := HSm.out; omega
          have haI : (a : Int) < (K.length : Int) := by omega
          have hcI : (c : Int) < (K.length : Int) := by omega
          obtain ⟨wx, hwx⟩ : ∃ x, x = wr.alloc (.cells #[.int .i64 (a : Int), .int .i64 (c : Int), .slice lo legs.length lcap] 78) := ⟨_, rfl⟩
          have bx : Below wr.heap.size wr wx := by rw [hwx]; exact gal wr _
          obtain ⟨XB, hXB⟩ : ∃ x, x = wr.heap.size := ⟨_, rfl⟩
          have y0 : wx.cell? ⟨XB, 0, none⟩ = some (.int .i64 (a : Int)) := by rw [hwx, hXB]; exact new_cell rfl rfl
          have y1 : wx.cell? ⟨XB, 1, none⟩ = some (.int .i64 (c : Int)) := by rw [hwx, hXB]; exact new_cell rfl rfl
          have y2 : wx.cell? ⟨XB, 2, none⟩ = some (.slice lo legs.length lcap) := by rw [hwx, hXB]; exact new_cell rfl rfl
          have hXl : XB < wx.heap.size := by rw [hwx, hXB]; simp
          have hEX : vE.ownBlock ≠ some XB := fun e => by have := (hO.ed.lt XB e).2; omega
          have hBr := heap_ltg hO.box
          have hbx : Below B wC wx := hb.trans (bx.mono (by omega))
          obtain ⟨kb, kof, rfl, hkb, hka, hkc⟩ : ∃ kb kof, ka = some ⟨kb, kof, none⟩ ∧ kb < wr.heap.size ∧ wx.cell? ⟨kb, kof + a, none⟩ = some (.bool (K.getD a false)) ∧ wx.cell? ⟨kb, kof + c, none⟩ = some (.bool (K.getD c false)) := by
            rcases hKA with h0 | ⟨kb, kof, rfl, h1, h2⟩
            · rw [h0] at hak; simp at hak
            · exact ⟨kb, kof, rfl, h1, (bx.cell (p := ⟨kb, kof + a, none⟩) h1).trans (h2 a hak), (bx.cell (p := ⟨kb, kof + c, none⟩) h1).trans (h2 c hck)⟩
          have HOx := hideg (hO.below bx)
          have hNx : Zo wx B NB K.length K.length (numL K K.length K.length) := hN.below bx
          have HNx := hideg hNx
          have HBx := hideg hbx
          have HLm := hideg hLm
          have hXw : B < XB := by omega
          have HWX := hideg hwx.symm
          have HGa : Hid (K.getD a false = true → wx.cell? ⟨NB, a, none⟩ = some (.int .i64 (rkF K a))) := fun h => by
            rw [Zo.cell hNx hak, numL_get K K.length hak hak h]; rfl
          have HGc : Hid (K.getD c false = true → wx.cell? ⟨NB, c, none⟩ = some (.int .i64 (rkF K c))) := fun h => by
            rw [Zo.cell hNx hck, numL_get K K.length hck hck h]; rfl
          obtain ⟨curN, hcN⟩ := hNx.box
          have hNE : vE.ownBlock ≠ some NB := row_ne HOx.out.ed hcN (by decide)
          have hNl : NB < wx.heap.size := heap_ltg hcN
          have HLm4 : Hid (partE K ((a : Int), (c : Int), legs) = [] → L.map (·.1) = partEs K g (i + 1)) := fun h => by rw [HSu.out, h, List.append_nil]; exact HLm.out
          have HKc := hideg hkc
          have HXB := hideg hXB
          rw [← HWX.out] at hka hkc
          clear hO hb hN hGA hKA hed qR hbw bx hLm hwx hbx hNx hcN hXB
          cases hka' : K.getD a false with
          | false =>
            rw [hka'] at hka
            have HLm5 := hideg (HLm4.out (by unfold partE; rw [if_neg (by simp only [Int.toNat_natCast]; rw [hka']; simp)]))
            clear HLm4 HLm HGa HGc hka' hkc y0 y1 y2 HKc
            go_wp2
            rw [HWX.out]
            go_roundw
            case rel => exact ⟨i + 1, _, L, by omega, by go_num, HOx.out, HLm5.out, HNx.out, HBx.out⟩
            case measure => simp [intOf]; omega
          | true =>
            rw [hka'] at hka
            cases hkc' : K.getD c false with
            | false =>
              rw [hkc'] at hkc
              have HLm5 := hideg (HLm4.out (by unfold partE; rw [if_neg (by simp only [Int.toNat_natCast]; rw [hkc']; simp)]))
              clear HLm4 HLm HGa HGc hka' hkc' y0 y1 y2 HKc
              go_wp2
              rw [HWX.out]
              go_roundw
              case rel => exact ⟨i + 1, _, L, by omega, by go_num, HOx.out, HLm5.out, HNx.out, HBx.out⟩
              case measure => simp [intOf]; omega
            | true =>
              rw [hkc'] at hkc
              have HEe : Hid (partE K ((a : Int), (c : Int), legs) = [(rkF K a, rkF K c, legs)]) := by show _ = _; unfold partE; rw [if_pos (by simp only [Int.toNat_natCast]; exact ⟨hka', hkc'⟩)]
              have z0 := HGa.out hka'
              have z1 := HGc.out hkc'
              generalize rkF K a = ra at *
              generalize rkF K c = rb at *
              have HLG := hideg (HLg.out wx HBx.out)
              have hBx := heap_ltg HOx.out.box
              have hBxl : B ≤ wx.heap.size := Nat.le_of_lt hBx
              have p2 : wx.cell? ⟨B, 2, none⟩ = some vE := by rw [Lib.cell_of_heap HOx.out.box]; rfl
              obtain ⟨va, vc, rfl, _, _⟩ := row_form HOx.out.ed
              have hLL : L.length ≤ 30 := by
                have h1 : L.length = (L.map (·.1)).length := by simp
                have h3 := HLen.out
                rw [h1, HLm.out]; omega
              clear HLm4 HGa HGc hka' hkc' HLg HKc
              go_wp2_with (at_builtin; rw [HWX.out, ← HXB.out]; refine wpList_copy rfl _ _ rfl (lo := lo) (lcap := lcap) (legs := legs) rfl rfl HLG.out (by omega) (B := B) hBxl ?_; intro vg wg hvg hbg hfg; obtain ⟨vgo, vgc, rfl, _, _⟩ := row_form hvg)
              clear q0 q1 q2 c0 c1 c2 hka hkc HWX HXB
              have p2g := (hbg.cell (p := ⟨B, 2, none⟩) hBx).trans p2
              have y0g := (hbg.cell (p := ⟨XB, 0, none⟩) hXl).trans y0
              have y1g := (hbg.cell (p := ⟨XB, 1, none⟩) hXl).trans y1
              have z0g := (hbg.cell (p := ⟨NB, a, none⟩) hNl).trans z0
              have z1g := (hbg.cell (p := ⟨NB, c, none⟩) hNl).trans z1
              have HOg := hideg (HOx.out.below hbg)
              have HNg := hideg (ownsRow_below HNx.out hbg)
              have HBg := hideg (HBx.out.trans (hbg.mono hBxl))
              have hBg : B < wg.heap.size := Nat.lt_of_lt_of_le hBx hbg.size
              have hXg : XB < wg.heap.size := Nat.lt_of_lt_of_le hXl hbg.size
              have hNg : NB < wg.heap.size := Nat.lt_of_lt_of_le hNl hbg.size
              have hsz := hbg.size
              have hneX : some XB ≠ (Value.slice va L.length vc).ownBlock := fun e => hEX e.symm
              have hneN : some NB ≠ (Value.slice va L.length vc).ownBlock := fun e => hNE e.symm
              clear p2 y0 y1 y2 z0 z1 HNx HBx
              refine wp_region_back (S := fun w' => w'.cell? ⟨B, 2, none⟩ = some (.slice va L.length vc) ∧ w'.cell? ⟨XB, 0, none⟩ = some (.int .i64 (a : Int)) ∧ w'.cell? ⟨XB, 1, none⟩ = some (.int .i64 (c : Int)) ∧ w'.cell? ⟨NB, a, none⟩ = some (.int .i64 ra) ∧ w'.cell? ⟨NB, c, none⟩ = some (.int .i64 rb)) (by kernel_rfl) (by simp) (by kernel_rfl) (by kernel_rfl) ⟨p2g, y0g, y1g, z0g, z1g⟩ (fun hHeld => ?_)
              simp only [List.pop_toArray, List.dropLast, List.back!_toArray, List.getLast!]
              refine take_lit (i := 0) (v := ?_) rfl (by kernel_rfl) (by kernel_rfl) (by kernel_rfl) (fun _ _ _ h => h) (Or.inl ⟨by rfl, ?hy0⟩) (by assumption) ?_
              case hy0 => (intro w hSw; (try dsimp only at hSw); go_simp; try with_reducible rfl)
              try simp only [Act.put, List.setIfInBounds_toArray, List.set_cons_zero, List.set_cons_succ]
              refine take_lit (i := 1) (v := ?_) rfl (by kernel_rfl) (by kernel_rfl) (by kernel_rfl) (fun _ _ _ h => h) (Or.inl ⟨by rfl, ?hy1⟩) (by assumption) ?_
              case hy1 => (intro w hSw; (try dsimp only at hSw); go_simp; try with_reducible rfl)
              try simp only [Act.put, List.setIfInBounds_toArray, List.set_cons_zero, List.set_cons_succ]
              refine take_lit (i := 2) (v := ?_) rfl (by kernel_rfl) (by kernel_rfl) (by kernel_rfl) (fun _ _ _ h => h) (Or.inl ⟨by rfl, ?hy2⟩) (by assumption) ?_
              case hy2 => (intro w hSw; (try dsimp only at hSw); go_simp; try with_reducible rfl)
              try simp only [Act.put, List.setIfInBounds_toArray, List.set_cons_zero, List.set_cons_succ]
              refine take_lit (i := 3) (v := ?_) rfl (by kernel_rfl) (by kernel_rfl) (by kernel_rfl) (fun _ _ _ h => h) (Or.inl ⟨by rfl, ?hy3⟩) (by assumption) ?_
              case hy3 => (intro w hSw; (try dsimp only at hSw); go_simp; try with_reducible rfl)
              try simp only [Act.put, List.setIfInBounds_toArray, List.set_cons_zero, List.set_cons_succ]
              refine take_lit (i := 4) (v := ?_) rfl (by kernel_rfl) (by kernel_rfl) (by kernel_rfl) (fun _ _ _ h => h) (Or.inl ⟨by rfl, ?hy4⟩) (by assumption) ?_
              case hy4 => (intro w hSw; (try dsimp only at hSw); go_simp; try with_reducible rfl)
              try simp only [Act.put, List.setIfInBounds_toArray, List.set_cons_zero, List.set_cons_succ]
              refine take_lit (i := 5) (v := ?_) rfl (by kernel_rfl) (by kernel_rfl) (by kernel_rfl) (fun _ _ _ h => h) (Or.inl ⟨by rfl, ?hy5⟩) (by assumption) ?_
              case hy5 => (intro w hSw; (try dsimp only at hSw); go_simp; try with_reducible rfl)
              try simp only [Act.put, List.setIfInBounds_toArray, List.set_cons_zero, List.set_cons_succ]
              refine take_lit (i := 6) (v := ?_) rfl (by kernel_rfl) (by kernel_rfl) (by kernel_rfl) (fun _ _ _ h => h) (Or.inl ⟨by rfl, ?hy6⟩) (by assumption) ?_
              case hy6 => (intro w hSw; (try dsimp only at hSw); go_simp; try with_reducible rfl)
              try simp only [Act.put, List.setIfInBounds_toArray, List.set_cons_zero, List.set_cons_succ]
              refine take_lit (i := 7) (v := ?_) rfl (by kernel_rfl) (by kernel_rfl) (by kernel_rfl) (fun _ _ _ h => h) (Or.inl ⟨by rfl, ?hy7⟩) (by assumption) ?_
              case hy7 => (intro w hSw; (try dsimp only at hSw); go_simp; try with_reducible rfl)
              try simp only [Act.put, List.setIfInBounds_toArray, List.set_cons_zero, List.set_cons_succ]
              refine take_lit (i := 8) (v := ?_) rfl (by kernel_rfl) (by kernel_rfl) (by kernel_rfl) (fun _ _ _ h => h) (Or.inl ⟨by rfl, ?hy8⟩) (by assumption) ?_
              case hy8 => (intro w hSw; (try dsimp only at hSw); go_simp; try with_reducible rfl)
              try simp only [Act.put, List.setIfInBounds_toArray, List.set_cons_zero, List.set_cons_succ]
              refine take_lit (i := 9) (v := ?_) rfl (by kernel_rfl) (by kernel_rfl) (by kernel_rfl) (fun _ _ _ h => h) (Or.inl ⟨by rfl, ?hy9⟩) (by assumption) ?_
              case hy9 => (intro w hSw; (try dsimp only at hSw); go_simp; try with_reducible rfl)
              try simp only [Act.put, List.setIfInBounds_toArray, List.set_cons_zero, List.set_cons_succ]
              refine take_lit (i := 10) (v := ?_) rfl (by kernel_rfl) (by kernel_rfl) (by kernel_rfl) (fun _ _ _ h => h) (Or.inl ⟨by rfl, ?hy10⟩) (by assumption) ?_
              case hy10 => (intro w hSw; (try dsimp only at hSw); go_simp; try with_reducible rfl)
              try simp only [Act.put, List.setIfInBounds_toArray, List.set_cons_zero, List.set_cons_succ]
              refine take_lit (i := 11) (v := ?_) rfl (by kernel_rfl) (by kernel_rfl) (by kernel_rfl) (fun _ _ _ h => h) (Or.inl ⟨by rfl, ?hy11⟩) (by assumption) ?_
              case hy11 => (intro w hSw; (try dsimp only at hSw); go_simp; try with_reducible rfl)
              try simp only [Act.put, List.setIfInBounds_toArray, List.set_cons_zero, List.set_cons_succ]
              refine take_lit (i := 12) (v := ?_) rfl (by kernel_rfl) (by kernel_rfl) (by kernel_rfl) (fun _ _ _ h => h) (Or.inl ⟨by rfl, ?hy12⟩) (by assumption) ?_
              case hy12 => (intro w hSw; (try dsimp only at hSw); go_simp; try with_reducible rfl)
              try simp only [Act.put, List.setIfInBounds_toArray, List.set_cons_zero, List.set_cons_succ]
              refine take_lit (i := 13) (v := ?_) rfl (by kernel_rfl) (by kernel_rfl) (by kernel_rfl) (fun _ _ _ h => h) (Or.inl ⟨by rfl, ?hy13⟩) (by assumption) ?_
              case hy13 => (intro w hSw; (try dsimp only at hSw); go_simp; try with_reducible rfl)
              try simp only [Act.put, List.setIfInBounds_toArray, List.set_cons_zero, List.set_cons_succ]
              refine next_lit (i := 14) rfl (by kernel_rfl) (fun KK hK => ?_)
              go_simp
              have hwa : Below wg.heap.size wg (wg.drew.alloc (.cells #[.int .i64 ra, .int .i64 rb, .slice vgo legs.length vgc] 78)) := (Below.refl _ _).drew.alloc (Nat.le_refl _) _
              have n1 := (hwa.cell (p := ⟨B, 2, none⟩) hBg).trans p2g
              have n2 := (hwa.cell (p := ⟨XB, 0, none⟩) hXg).trans y0g
              have n3 := (hwa.cell (p := ⟨XB, 1, none⟩) hXg).trans y1g
              have n4 := (hwa.cell (p := ⟨NB, a, none⟩) hNg).trans z0g
              have n5 := (hwa.cell (p := ⟨NB, c, none⟩) hNg).trans z1g
              refine hK.out _ _ ⟨n1, n2, n3, n4, n5⟩ (fun hHeld => ?_)
              clear hK KK hHeld
              try simp only [Act.put, List.setIfInBounds_toArray, List.set_cons_zero, List.set_cons_succ]
              refine next_lit (i := 15) rfl (by kernel_rfl) (fun KK hK => ?_)
              have hvg2 := ownsRow_below hvg hwa
              have hed0 := ownsRow_below HOg.out.ed hwa
              refine step_append_lies _ (by rfl) _ _ _ (by rfl) B 78 ie _ 3 40 Try.underlying23 hie he0 he1 he2 rfl (by omega) (.slice va L.length vc) L.length (encE L) (by rfl) hed0 ⟨wg.heap.size, 0, none⟩ 1 1 [.int .i64 ra, .int .i64 rb, .slice vgo legs.length vgc] (by rfl) (by rfl) (World.news_of_block (cs := #[.int .i64 ra, .int .i64 rb, .slice vgo legs.length vgc]) (t := 78) (fr := (0, 0)) (heap_alloc_new wg.drew _)) (by intro u hu; simp at hu; rcases hu with rfl | rfl | rfl <;> rfl) (by omega) (by unfold maxLen; omega) (by omega) (by simp; omega) (wg.heap.size + 1) (by simp [World.drew]) ?_
              intro gg cap1 w6 hown6 hgrow hat hltg
              obtain ⟨hbox6, hG6⟩ := HOx.out.edgeL (hbg.trans (hwa.mono hsz)) hgrow hvg2 hfg hown6
              have x1 : w6.cell? ⟨B, 2, none⟩ = some (.slice va L.length vc) := by rw [Lib.cell_of_heap hbox6]; rfl
              have x2 : w6.cell? ⟨XB, 0, none⟩ = some (.int .i64 (a : Int)) := by rw [hgrow.cell_far _ (Nat.lt_of_lt_of_le hXg hwa.size) hneX]; exact n2
              have x3 : w6.cell? ⟨XB, 1, none⟩ = some (.int .i64 (c : Int)) := by rw [hgrow.cell_far _ (Nat.lt_of_lt_of_le hXg hwa.size) hneX]; exact n3
              have x4 : w6.cell? ⟨NB, a, none⟩ = some (.int .i64 ra) := by rw [hgrow.cell_far _ (Nat.lt_of_lt_of_le hNg hwa.size) hneN]; exact n4
              have x5 : w6.cell? ⟨NB, c, none⟩ = some (.int .i64 rb) := by rw [hgrow.cell_far _ (Nat.lt_of_lt_of_le hNg hwa.size) hneN]; exact n5
              have fz6 : w6.frozen? ⟨B, 2, none⟩ = false := Lib.frozen_of_heap hbox6 2
              have HB6 := hideg (((HBg.out.trans (hwa.mono (Nat.le_of_lt hBg))).grown hgrow (Nat.le_trans (Nat.le_of_lt hBg) hwa.size) (fun j hj => (hed0.lt j hj).1)).setCell (p := ⟨B, 2, none⟩) (Nat.le_refl _) (.slice (some ⟨gg, 0, none⟩) (L.length + 1) cap1))
              have HG6 := hideg hG6
              have hN6 := row_grown (ownsRow_below HNg.out hwa) hed0 hgrow (by decide)
              have HN6 : Hid (Zo (w6.setCell ⟨B, 2, none⟩ (.slice (some ⟨gg, 0, none⟩) (L.length + 1) cap1)) B NB K.length K.length (numL K K.length K.length)) := row_set (b := B) (j := 2) (u := .slice (some ⟨gg, 0, none⟩) (L.length + 1) cap1) hN6 (row_ne hN6 hbox6 (by decide))
              have HLm6 : Hid ((L ++ [((ra, rb, legs), Value.slice vgo legs.length vgc)]).map (·.1) = partEs K g (i + 1)) := by
                show _ = _
                rw [HSu.out, HEe.out, List.map_append, HLm.out]; rfl
              refine hK.out _ _ ⟨x1, x2, x3, x4, x5⟩ (fun hHeld => ?_)
              clear hK KK hwa n1 n2 n3 n4 n5 hgrow hown6 hbox6 hG6 hat hltg hed0 hN6 hvg hvg2 hbg hfg hsz
              try simp only [Act.put, List.setIfInBounds_toArray, List.set_cons_zero, List.set_cons_succ]
              refine take_lit (i := 16) (v := ?_) rfl (by kernel_rfl) (by kernel_rfl) (by kernel_rfl) (fun _ _ _ h => h) (Or.inl ⟨by rfl, ?hy16⟩) (by assumption) ?_
              case hy16 => (intro w hSw; (try dsimp only at hSw); go_simp; try with_reducible rfl)
              try simp only [Act.put, List.setIfInBounds_toArray, List.set_cons_zero, List.set_cons_succ]
              refine wpAnyH_done (by kernel_rfl) ?_ _
              refine back_last (fun KK hK => ?_)
              clear hHeld
              go_simp
              refine hK.out _ _ ?_
              clear hK KK x1 x2 x3 x4 x5 fz6
              go_wp2
              go_roundw
              case rel => exact ⟨i + 1, _, _, by omega, by go_num, HG6.out, HLm6.out, HN6.out, HB6.out⟩
              case measure => simp [intOf]; omega
        · have hin2 : ¬ ((i : Int) < (g.edges.length : Int)) := by omega
          obtain rfl : i = g.edges.length := by omega
          have hR0 : wr.cell? ⟨w.heap.size + 1, 0, none⟩ = some (.int .i64 0) := by rw [Lib.cell_of_heap qR]; rfl
          have hR1 : wr.cell? ⟨w.heap.size + 1, 1, none⟩ = some (.slice none 0 0) := by rw [Lib.cell_of_heap qR]; rfl
          have hR2 : wr.cell? ⟨w.heap.size + 1, 2, none⟩ = some (.slice none 0 0) := by rw [Lib.cell_of_heap qR]; rfl
          have f0 : wr.frozen? ⟨w.heap.size + 1, 0, none⟩ = false := Lib.frozen_of_heap qR 0
          have f1 : wr.frozen? ⟨w.heap.size + 1, 1, none⟩ = false := Lib.frozen_of_heap qR 1
          have f2 : wr.frozen? ⟨w.heap.size + 1, 2, none⟩ = false := Lib.frozen_of_heap qR 2
          have s0 : wr.cell? ⟨B, 0, none⟩ = some (.int .i64 H) := by rw [Lib.cell_of_heap hO.box]; rfl
          have s1 : wr.cell? ⟨B, 1, none⟩ = some vL := by rw [Lib.cell_of_heap hO.box]; rfl
          have s2 : wr.cell? ⟨B, 2, none⟩ = some vE := by rw [Lib.cell_of_heap hO.box]; rfl
          obtain ⟨lo, lc2, rfl, _, _⟩ := row_form hO.lv
          obtain ⟨eo, ec2, rfl, _, _⟩ := row_form hO.ed
          have HFin : Hid (∀ a b c, GOwn B B (((wr.setCell ⟨w.heap.size + 1, 0, none⟩ a).setCell ⟨w.heap.size + 1, 1, none⟩ b).setCell ⟨w.heap.size + 1, 2, none⟩ c) H (.slice lo (livF K g.lives K.length).length lc2) (.slice eo L.length ec2) (livF K g.lives K.length) L) := fun a b c => ((hO.setLow hwB 0 a).setLow hwB 1 b).setLow hwB 2 c
          have HBF : Hid (∀ a b c, Below w.heap.size w (((wr.setCell ⟨w.heap.size + 1, 0, none⟩ a).setCell ⟨w.heap.size + 1, 1, none⟩ b).setCell ⟨w.heap.size + 1, 2, none⟩ c)) := fun a b c => ((hbw.setCell (p := ⟨w.heap.size + 1, 0, none⟩) (by simp) a).setCell (p := ⟨w.heap.size + 1, 1, none⟩) (by simp) b).setCell (p := ⟨w.heap.size + 1, 2, none⟩) (by simp) c
          have HLm := hideg hLm
          have HLl : Hid (L.length = (partEs K g g.edges.length).length) := by show _ = _; rw [← hLm]; simp
          have HGt : Hid (∀ a b c, GAt (((wr.setCell ⟨w.heap.size + 1, 0, none⟩ a).setCell ⟨w.heap.size + 1, 1, none⟩ b).setCell ⟨w.heap.size + 1, 2, none⟩ c) lo eo ⟨H, livF K g.lives K.length, partEs K g g.edges.length⟩) := by
            intro a b c
            rw [← hLm]
            obtain ⟨la', lc', ea', ec', e1, e2, h, _⟩ := (HFin.out a b c).gat
            simp only [Value.slice.injEq] at e1 e2
            obtain ⟨rfl, _, rfl⟩ := e1
            obtain ⟨rfl, _, rfl⟩ := e2
            exact h
          clear hO hN hb hGA hKA qR hbw hLm HFin
          go_wp2
          exact bodyPost_ret (v := .tuple #[.agg #[.int .i64 H, .slice lo (livF K g.lives K.length).length lc2, .slice eo L.length ec2], .int .i64 0]) (by simp [results, Try.results27, go_sem, hR0, hR1, hR2]) rfl ⟨lo, eo, ⟨lc2, ec2, by rw [HLl.out]⟩, HGt.out _ _ _, HBF.out _ _ _⟩

set_option maxRecDepth 100000 in
set_option maxHeartbeats 1000000 in
theorem tOnly_bad (g : Gr) (K : List Bool) (la ea ka : Option Addr) (lc ec kc : Nat) (w : World) (hG : GAt w la ea g) (h0 : ¬ gChk g = 0) :
    Calls Try.prog 27 #[.agg #[.int .i64 g.hor, .slice la g.lives.length lc, .slice ea g.edges.length ec], .slice ka K.length kc] w fun r w' => r = .returned (.tuple #[.agg #[.int .i64 0, .slice none 0 0, .slice none 0 0], .int .i64 (gChk g)]) ∧ Below w.heap.size w w' := by
  obtain ⟨wA, hwA⟩ : ∃ x, x = (w.alloc (.cells #[.int .i64 g.hor, .slice la g.lives.length lc, .slice ea g.edges.length ec] 25)).alloc (.cells #[.int .i64 0, .slice none 0 0, .slice none 0 0] 25) := ⟨_, rfl⟩
  have hsA : wA.heap.size = w.heap.size + 1 + 1 := by rw [hwA]; simp
  have hbA : Below w.heap.size w wA := by rw [hwA]; exact ptg (gal w _) (gal _ _)
  have hR : wA.heap[w.heap.size + 1]? = some (.cells #[.int .i64 0, .slice none 0 0, .slice none 0 0] 25 (0, 0)) := by
    rw [hwA]
    have := heap_alloc_new (w.alloc (.cells #[.int .i64 g.hor, .slice la g.lives.length lc, .slice ea g.edges.length ec] 25)) (.cells #[.int .i64 0, .slice none 0 0, .slice none 0 0] 25)
    simpa using this
  have hC := gCheck_any g la ea lc ec wA (hG.below hbA)
  have d1 : (gChk g != 0) = true := by simpa using h0
  generalize gChk g = n at *
  have HWA := hideg hwA.symm
  have HR := hideg hR
  clear hG hwA h0 hR
  go_enter Try.func27, Try.ntmps27
  go_wp2_with fail
  rw [HWA.out]
  refine hC.mono ?_
  rintro r wC ⟨rfl, hbC⟩
  have qR := (hbC.block (w.heap.size + 1) (by omega)).trans HR.out
  have hbw : Below w.heap.size w wC := ptg hbA hbC
  have hR0 : wC.cell? ⟨w.heap.size + 1, 0, none⟩ = some (.int .i64 0) := by rw [Lib.cell_of_heap qR]; rfl
  have hR1 : wC.cell? ⟨w.heap.size + 1, 1, none⟩ = some (.slice none 0 0) := by rw [Lib.cell_of_heap qR]; rfl
  have hR2 : wC.cell? ⟨w.heap.size + 1, 2, none⟩ = some (.slice none 0 0) := by rw [Lib.cell_of_heap qR]; rfl
  have f0 : wC.frozen? ⟨w.heap.size + 1, 0, none⟩ = false := Lib.frozen_of_heap qR 0
  have f1 : wC.frozen? ⟨w.heap.size + 1, 1, none⟩ = false := Lib.frozen_of_heap qR 1
  have f2 : wC.frozen? ⟨w.heap.size + 1, 2, none⟩ = false := Lib.frozen_of_heap qR 2
  have HBF := hideg (((hbw.setCell (p := ⟨w.heap.size + 1, 0, none⟩) (by simp) (.int .i64 0)).setCell (p := ⟨w.heap.size + 1, 1, none⟩) (by simp) (.slice none 0 0)).setCell (p := ⟨w.heap.size + 1, 2, none⟩) (by simp) (.slice none 0 0))
  clear hC hbC qR hbw HR
  go_wp2
  exact bodyPost_ret (v := .tuple #[.agg #[.int .i64 0, .slice none 0 0, .slice none 0 0], .int .i64 n]) (by simp [results, Try.results27, go_sem, hR0, hR1, hR2]) rfl ⟨rfl, HBF.out⟩

set_option maxRecDepth 100000 in
set_option maxHeartbeats 1000000 in
theorem tOnly_form (g : Gr) (K : List Bool) (la ea ka : Option Addr) (lc ec kc : Nat) (w : World) (hG : GAt w la ea g) (h0 : gChk g = 0) (hl : ¬ K.length = g.lives.length) :
    Calls Try.prog 27 #[.agg #[.int .i64 g.hor, .slice la g.lives.length lc, .slice ea g.edges.length ec], .slice ka K.length kc] w fun r w' => r = .returned (.tuple #[.agg #[.int .i64 0, .slice none 0 0, .slice none 0 0], .int .i64 5]) ∧ Below w.heap.size w w' := by
  obtain ⟨wA, hwA⟩ : ∃ x, x = (w.alloc (.cells #[.int .i64 g.hor, .slice la g.lives.length lc, .slice ea g.edges.length ec] 25)).alloc (.cells #[.int .i64 0, .slice none 0 0, .slice none 0 0] 25) := ⟨_, rfl⟩
  have hsA : wA.heap.size = w.heap.size + 1 + 1 := by rw [hwA]; simp
  have hbA : Below w.heap.size w wA := by rw [hwA]; exact ptg (gal w _) (gal _ _)
  have hR : wA.heap[w.heap.size + 1]? = some (.cells #[.int .i64 0, .slice none 0 0, .slice none 0 0] 25 (0, 0)) := by
    rw [hwA]
    have := heap_alloc_new (w.alloc (.cells #[.int .i64 g.hor, .slice la g.lives.length lc, .slice ea g.edges.length ec] 25)) (.cells #[.int .i64 0, .slice none 0 0, .slice none 0 0] 25)
    simpa using this
  have hg1 : wA.cell? ⟨w.heap.size, 1, none⟩ = some (.slice la g.lives.length lc) := by
    rw [hwA, (gal _ _).cell (p := ⟨w.heap.size, 1, none⟩) (by simp)]
    exact new_cell rfl rfl
  have hC := gCheck_any g la ea lc ec wA (hG.below hbA)
  rw [h0] at hC
  have d1 : ((K.length : Int) != (g.lives.length : Int)) = true := by simpa using fun e => hl (by omega)
  have HWA := hideg hwA.symm
  have HR := hideg hR
  have HG1 := hideg hg1
  clear hG hwA h0 hR hg1 hl
  go_enter Try.func27, Try.ntmps27
  go_wp2_with fail
  rw [HWA.out]
  refine hC.mono ?_
  rintro r wC ⟨rfl, hbC⟩
  have qR := (hbC.block (w.heap.size + 1) (by omega)).trans HR.out
  have g1 := (hbC.cell (p := ⟨w.heap.size, 1, none⟩) (by simp only; omega)).trans HG1.out
  have hbw : Below w.heap.size w wC := ptg hbA hbC
  have hR0 : wC.cell? ⟨w.heap.size + 1, 0, none⟩ = some (.int .i64 0) := by rw [Lib.cell_of_heap qR]; rfl
  have hR1 : wC.cell? ⟨w.heap.size + 1, 1, none⟩ = some (.slice none 0 0) := by rw [Lib.cell_of_heap qR]; rfl
  have hR2 : wC.cell? ⟨w.heap.size + 1, 2, none⟩ = some (.slice none 0 0) := by rw [Lib.cell_of_heap qR]; rfl
  have f0 : wC.frozen? ⟨w.heap.size + 1, 0, none⟩ = false := Lib.frozen_of_heap qR 0
  have f1 : wC.frozen? ⟨w.heap.size + 1, 1, none⟩ = false := Lib.frozen_of_heap qR 1
  have f2 : wC.frozen? ⟨w.heap.size + 1, 2, none⟩ = false := Lib.frozen_of_heap qR 2
  have HBF := hideg (((hbw.setCell (p := ⟨w.heap.size + 1, 0, none⟩) (by simp) (.int .i64 0)).setCell (p := ⟨w.heap.size + 1, 1, none⟩) (by simp) (.slice none 0 0)).setCell (p := ⟨w.heap.size + 1, 2, none⟩) (by simp) (.slice none 0 0))
  clear hC hbC qR hbw HR
  go_wp2
  exact bodyPost_ret (v := .tuple #[.agg #[.int .i64 0, .slice none 0 0, .slice none 0 0], .int .i64 5]) (by simp [results, Try.results27, go_sem, hR0, hR1, hR2]) rfl ⟨rfl, HBF.out⟩

theorem tOnly_any (g : Gr) (K : List Bool) (la ea ka : Option Addr) (lc ec kc : Nat) (w : World) (hG : GAt w la ea g) (hK : BsAt w ka K) :
    Calls Try.prog 27 #[.agg #[.int .i64 g.hor, .slice la g.lives.length lc, .slice ea g.edges.length ec], .slice ka K.length kc] w fun r w' => ∃ la' ea' lc' ec', r = .returned (.tuple #[.agg #[.int .i64 (partA g K).1.hor, .slice la' (partA g K).1.lives.length lc', .slice ea' (partA g K).1.edges.length ec'], .int .i64 (partA g K).2]) ∧ GAt w' la' ea' (partA g K).1 ∧ Below w.heap.size w w' := by
  unfold partA
  by_cases h0 : gChk g = 0
  · rw [if_pos h0]
    by_cases hl : K.length = g.lives.length
    · rw [if_pos hl]
      exact tOnly_ok g K la ea ka lc ec kc w hG h0 hK hl
    · rw [if_neg hl]
      refine (tOnly_form g K la ea ka lc ec kc w hG h0 hl).mono ?_
      rintro r w' ⟨rfl, hb⟩
      exact ⟨none, none, 0, 0, rfl, ⟨.inl rfl, .inl rfl, by simp, by simp⟩, hb⟩
  · rw [if_neg h0]
    refine (tOnly_bad g K la ea ka lc ec kc w hG h0).mono ?_
    rintro r w' ⟨rfl, hb⟩
    exact ⟨none, none, 0, 0, rfl, ⟨.inl rfl, .inl rfl, by simp, by simp⟩, hb⟩

end Go.Proofs.Ytanbbkoleekmjag
