/-
  What Part of the reference answers.
-/
import Derived.Test.YtanbbkoleekmjacTnD
import Derived.Test.YtanbbkoleekmjacSBase
namespace Go.Proofs.Ytanbbkoleekmjac
open Go.RowKit

/-- a row of numbers beside it grows -/
theorem GOwn.beside {B b : Nat} {w w1 : World} {hor : Int} {vL vE v' : Value} {n' : Nat} {xs' : List Value} {lives : List (Int × Int)} {L : List (Ed × Value)} (h : GOwn B b w hor vL vE lives L) (h' : w.ownsRow B 3 1 v' n' xs') (hg : w.grownBy w1 v'.ownBlock) : GOwn B b w1 hor vL vE lives L :=
  ⟨by rw [hg.block b (heap_ltg h.box) (fun k => row_ne h' h.box (by decide) k.symm)]; exact h.box, h.low, row_grown h.lv h' hg (by decide), row_grown h.ed h' hg (by decide), fun p hp => row_grown (h.lg p hp) h' hg (by decide), h.ap⟩
theorem intAt_old {K : List Bool} {n : Nat} {A r : Int} (hA : 0 ≤ A ∧ A < n) (h : intAt A (oldF K n) r) : (K.getD A.toNat false = true ∧ r = rkF K A) ∨ (K.getD A.toNat false = false ∧ r = -1) := by
  rcases h with ⟨k, h1, rfl⟩ | ⟨h1, rfl⟩
  · obtain ⟨hk, e⟩ := List.getElem?_eq_some_iff.1 h1
    obtain ⟨h2, h3⟩ := old_at (v := A.toNat) hk (by rw [e]; omega)
    exact .inl ⟨h2, by unfold rkF; omega⟩
  · right
    refine ⟨?_, rfl⟩
    rw [← Bool.not_eq_true]
    exact fun c => h1 (mem_old.2 ⟨A.toNat, by omega, c, by omega⟩)

theorem Try.infoIntT : (Try.prog.info? 3).map (fun i => (i.zero, i.size, i.bytes)) = some (some (.int .i64 0), 1, 8) := by kernel_rfl

set_option maxRecDepth 100000 in
set_option maxHeartbeats 1000000 in
theorem RPart_any (g : Gr) (K : List Bool) (la ea ka : Option Addr) (lc ec kc : Nat) (w : World) (hG : GAt w la ea g) (hR : Right g) (hK : BsAt w ka K) (hl : K.length = g.lives.length) :
    Calls Try.prog 31 #[.agg #[.int .i64 g.hor, .slice la g.lives.length lc, .slice ea g.edges.length ec], .slice ka K.length kc] w fun r w' => ∃ la' ea' lc' ec', r = .returned (.agg #[.int .i64 (partG K g).hor, .slice la' (partG K g).lives.length lc', .slice ea' (partG K g).edges.length ec']) ∧ GNew w.heap.size w' la' ea' (partG K g) ∧ Below w.heap.size w w' := by
  obtain ⟨ii, hii, hi0, hi1, hi2⟩ := info_parts Try.infoIvlT
  obtain ⟨ie, hie, he0, he1, he2⟩ := info_parts Try.infoEdgeT
  obtain ⟨in', hin, hn0, hn1, hn2⟩ := info_parts Try.infoIntT
  have hl12 := hR.lvs
  have he30 := hR.eds
  obtain ⟨H, hH⟩ : ∃ H, g.hor = H := ⟨_, rfl⟩
  obtain ⟨wA, hwA⟩ : ∃ x, x = (w.alloc (.cells #[.int .i64 g.hor, .slice la g.lives.length lc, .slice ea g.edges.length ec] 25)).alloc (.cells #[.int .i64 0, .slice none 0 0, .slice none 0 0] 25) := ⟨_, rfl⟩
  obtain ⟨w2, hw2⟩ : ∃ x, x = wA.alloc (.cells #[.int .i64 g.hor, .slice none 0 0, .slice none 0 0] 25) := ⟨_, rfl⟩
  have hsA : wA.heap.size = w.heap.size + 1 + 1 := by rw [hwA]; simp
  have hbA : Below w.heap.size w wA := by rw [hwA]; exact ptg (gal w _) (gal _ _)
  have hG2 : GOwn (w.heap.size + 1 + 1) (w.heap.size + 1 + 1) w2 g.hor (.slice none 0 0) (.slice none 0 0) [] [] := ⟨by rw [hw2, ← hsA]; exact heap_alloc_new wA _, Nat.le_refl _, World.ownsRow_nil _ _ _ _, World.ownsRow_nil _ _ _ _, fun p hp => by simp at hp, fun M p h => by simp at h⟩
  have HGx : Hid (∀ W, Below (w.heap.size + 1 + 1) wA W → W.cell? ⟨w.heap.size, 0, none⟩ = some (.int .i64 H) ∧ W.cell? ⟨w.heap.size, 1, none⟩ = some (.slice la g.lives.length lc) ∧ W.cell? ⟨w.heap.size, 2, none⟩ = some (.slice ea g.edges.length ec) ∧ W.heap[w.heap.size + 1]? = some (.cells #[.int .i64 0, .slice none 0 0, .slice none 0 0] 25 (0, 0)) ∧ GAt W la ea g ∧ BsAt W ka K ∧ Below w.heap.size w W) := by
    intro W hb
    have c : ∀ j x, #[Value.int .i64 g.hor, .slice la g.lives.length lc, .slice ea g.edges.length ec][j]? = some x → W.cell? ⟨w.heap.size, j, none⟩ = some x := by
      intro j x hx
      rw [hb.cell (p := ⟨w.heap.size, j, none⟩) (by simp only; omega), hwA, (gal _ _).cell (p := ⟨w.heap.size, j, none⟩) (by simp)]
      exact new_cell rfl hx
    have hW : Below w.heap.size w W := hbA.trans (hb.mono (by omega))
    refine ⟨(c 0 _ rfl).trans (by simp [hH]), c 1 _ rfl, c 2 _ rfl, ?_, hG.below hW, hK.below hW, hW⟩
    rw [hb.block _ (by omega), hwA]
    have := heap_alloc_new (w.alloc (.cells #[.int .i64 g.hor, .slice la g.lives.length lc, .slice ea g.edges.length ec] 25)) (.cells #[.int .i64 0, .slice none 0 0, .slice none 0 0] 25)
    simpa using this
  have hbA2 : Below (w.heap.size + 1 + 1) wA w2 := by rw [hw2]; exact (Below.refl _ _).alloc (by omega) _
  have HRt := hideg hR
  have HPg : Hid (partG K g = ⟨H, livF K g.lives K.length, partEs K g g.edges.length⟩) := by show _ = _; unfold partG; rw [hH]
  rw [hH] at hwA hw2 hG2
  obtain ⟨B, hB⟩ : ∃ B, B = w.heap.size + 1 + 1 := ⟨_, rfl⟩
  have hwB : w.heap.size + 1 < B := by omega
  rw [← hB] at hG2 HGx hbA2
  have HG2 := hideg hG2
  have HbA2 := hideg hbA2
  have HsB : Hid (B = wA.heap.size) := by show _ = _; omega
  rw [hH, HPg.out]
  have HWA := hideg hwA.symm
  have HW2 := hideg hw2.symm
  have HLb : Hid (∀ b off, la = some ⟨b, off, none⟩ → 0 < g.lives.length → b < w.heap.size) := by
    intro b off e hl
    rcases hG.lv with h | ⟨b', off', e', h1, _⟩
    · rw [h] at hl; simp at hl
    · rw [e] at e'; cases e'; exact h1
  have HEd : Hid (∀ i (h : i < g.edges.length), ∃ eb eof lo lcap, ea = some ⟨eb, eof, none⟩ ∧ ∀ W, Below w.heap.size w W → W.cell? ⟨eb, eof + i * 3, none⟩ = some (.int .i64 g.edges[i].1) ∧ W.cell? ⟨eb, eof + i * 3 + 1, none⟩ = some (.int .i64 g.edges[i].2.1) ∧ W.cell? ⟨eb, eof + i * 3 + 2, none⟩ = some (.slice lo g.edges[i].2.2.length lcap) ∧ LgAt W lo g.edges[i].2.2) := by
    intro i h
    rcases hG.ed with h0 | ⟨eb, eof, rfl, heb, hce⟩
    · rw [h0] at h; simp at h
    · obtain ⟨c0, c1, lo, lcap, c2, hL, _, _⟩ := hce i h
      exact ⟨eb, eof, lo, lcap, rfl, fun W hb => ⟨(hb.cell (p := ⟨eb, eof + i * 3, none⟩) heb).trans c0, (hb.cell (p := ⟨eb, eof + i * 3 + 1, none⟩) heb).trans c1, (hb.cell (p := ⟨eb, eof + i * 3 + 2, none⟩) heb).trans c2, hL.below hb⟩⟩
  obtain ⟨q0, _⟩ := HGx.out wA (Below.refl _ _)
  rw [← HWA.out] at q0
  clear hG hR hbA hG2 hbA2 hwA hw2 hB hH hK
  go_enter Try.func31, Try.ntmps31
  go_wp2_with fail
  rw [HWA.out, HW2.out, ← hsA, ← HsB.out]
  clear q0 HWA HW2 hsA
  go_loopw [6, 7] (fun o i wr => ∃ (k : Nat) (vL vo : Value), k ≤ K.length ∧ vo = o ∧ i = .int .i64 (k : Int) ∧ GOwn B B wr H vL (.slice none 0 0) (livF K g.lives k) [] ∧ wr.ownsRow B 3 1 vo (oldF K k).length ((oldF K k).map (Value.int .i64)) ∧ Below B wA wr) (fun _ i _ => K.length - (intOf i).toNat)
  case atStart => exact ⟨0, _, _, Nat.zero_le _, rfl, rfl, HG2.out, World.ownsRow_nil _ _ _ _, HbA2.out⟩
  case round =>
    clear HG2 HbA2
    obtain ⟨k, vL, vo, hk, rfl, rfl, hO, hN, hb⟩ := hrel
    obtain ⟨q0, q1, q2, qR, hGA, hKA, hbw⟩ := HGx.out wr hb
    by_cases hlt : k < K.length
    · have hki : (k : Int) < (K.length : Int) := by omega
      have hkw : IntKind.i64.wrap ((k : Int) + 1) = (k : Int) + 1 := wrap_nj _ (by omega) (by omega)
      obtain ⟨kb, kof, rfl, hkb, hkc⟩ : ∃ kb kof, ka = some ⟨kb, kof, none⟩ ∧ kb < wr.heap.size ∧ wr.cell? ⟨kb, kof + k, none⟩ = some (.bool (K.getD k false)) := by
        rcases hKA with h0 | ⟨kb, kof, rfl, h1, h2⟩
        · rw [h0] at hlt; simp at hlt
        · exact ⟨kb, kof, rfl, h1, h2 k hlt⟩
      cases hkk : K.getD k false with
      | false =>
        rw [hkk] at hkc
        have HO2 : Hid (GOwn B B wr H vL (.slice none 0 0) (livF K g.lives (k + 1)) []) := by show GOwn _ _ _ _ _ _ _ _; rw [livF, hkk]; simpa using hO
        have HN2 : Hid (wr.ownsRow B 3 1 vo (oldF K (k + 1)).length ((oldF K (k + 1)).map (Value.int .i64))) := by show World.ownsRow _ _ _ _ _ _ _; rw [oldF, hkk]; simpa using hN
        have HB2 := hideg hb
        clear hO hN hb hGA hKA hbw qR hkk
        go_wp2
        go_roundw
        case rel => exact ⟨k + 1, _, _, by omega, rfl, by go_num, HO2.out, HN2.out, HB2.out⟩
        case measure => simp [intOf]; omega
      | true =>
        rw [hkk] at hkc
        have hltv : k < g.lives.length := by omega
        rcases hGA.lv with h0 | ⟨lb, lof, rfl, hlb, hc⟩
        · rw [h0] at hltv; simp at hltv
        obtain ⟨c0, c1⟩ := IvAt.get hltv hc
        have HLs : Hid (livF K g.lives (k + 1) = livF K g.lives k ++ [(g.lives[k].1, g.lives[k].2)]) := by show _ = _; rw [livF, if_pos hkk, List.getD_eq_getElem?_getD, List.getElem?_eq_getElem hltv]; rfl
        have HOs : Hid (oldF K (k + 1) = oldF K k ++ [(k : Int)]) := by show _ = _; rw [oldF, if_pos hkk]
        have hol := old_len K k
        have hll := liv_len K g.lives k
        generalize g.lives[k] = pp at *
        obtain ⟨pf, pt⟩ := pp
        simp only at c0 c1 HLs
        have p1 : wr.cell? ⟨B, 1, none⟩ = some vL := by rw [Lib.cell_of_heap hO.box]; rfl
        have HO := hideg hO
        have HN := hideg hN
        have HB := hideg hb
        have hBl := heap_ltg hO.box
        obtain ⟨va, vc, rfl, _, _⟩ := row_form hO.lv
        generalize hn : (livF K g.lives k).length = n at *
        have hlbB : lb < B := by have := HLb.out lb lof rfl (by omega); omega
        have hne1 : some lb ≠ (Value.slice va n vc).ownBlock := fun e => by have h1 := (hO.lv.lt lb e.symm).1; omega
        have hne0 : some w.heap.size ≠ (Value.slice va n vc).ownBlock := fun e => by have h1 := (hO.lv.lt w.heap.size e.symm).1; omega
        have hwl : w.heap.size < wr.heap.size := by omega
        have hBs : B ≤ wr.heap.size := Nat.le_of_lt hBl
        have hltI : (k : Int) < (g.lives.length : Int) := by omega
        have hn12 : n ≤ 12 := by omega
        clear hll
        clear hO hN hb hGA hKA hc qR hbw hkk
        go_wp2_with fail
        refine wp_region_back (S := fun w' => w'.cell? ⟨B, 1, none⟩ = some (.slice va n vc) ∧ w'.cell? ⟨w.heap.size, 1, none⟩ = some (.slice (some ⟨lb, lof, none⟩) g.lives.length lc) ∧ w'.cell? ⟨lb, lof + k * 2, none⟩ = some (.int .i64 pf) ∧ w'.cell? ⟨lb, lof + k * 2 + 1, none⟩ = some (.int .i64 pt)) (by kernel_rfl) (by simp) (by kernel_rfl) (by kernel_rfl) ⟨p1, q1, c0, c1⟩ (fun hHeld => ?_)
        simp only [List.pop_toArray, List.dropLast, List.back!_toArray, List.getLast!]
        refine take_lit (i := 0) (v := ?_) rfl (by kernel_rfl) (by kernel_rfl) (by kernel_rfl) (fun _ _ _ h => h) (Or.inl ⟨by rfl, ?hy0⟩) (by assumption) ?_
        case hy0 => (intro w hSw; (try dsimp only at hSw); go_simp; try with_reducible rfl)
        try simp only [Act.put, List.setIfInBounds_toArray, List.set_cons_zero, List.set_cons_succ]
        refine take_lit (i := 1) (v := ?_) rfl (by kernel_rfl) (by kernel_rfl) (by kernel_rfl) (fun _ _ _ h => h) (Or.inl ⟨by rfl, ?hy1⟩) (by assumption) ?_
        case hy1 => (intro w hSw; (try dsimp only at hSw); go_simp; try with_reducible rfl)
        try simp only [Act.put, List.setIfInBounds_toArray, List.set_cons_zero, List.set_cons_succ]
        refine take_lit (i := 2) (v := ?_) rfl (by kernel_rfl) (by kernel_rfl) (by kernel_rfl) (fun _ _ _ h => h) (Or.inl ⟨by rfl, ?hy2⟩) (by assumption) ?_
        case hy2 => (intro w hSw; (try dsimp only at hSw); go_simp; try with_reducible rfl)
        try simp only [Act.put, List.setIfInBounds_toArray, List.set_cons_zero, List.set_cons_succ]
        refine take_lit (i := 3) (v := ?_) rfl (by kernel_rfl) (by kernel_rfl) (by kernel_rfl) (fun _ _ _ h => h) (Or.inl ⟨by rfl, ?hy3⟩) (by assumption) ?_
        case hy3 => (intro w hSw; (try dsimp only at hSw); go_simp; try with_reducible rfl)
        try simp only [Act.put, List.setIfInBounds_toArray, List.set_cons_zero, List.set_cons_succ]
        refine take_lit (i := 4) (v := ?_) rfl (by kernel_rfl) (by kernel_rfl) (by kernel_rfl) (fun _ _ _ h => h) (Or.inl ⟨by rfl, ?hy4⟩) (by assumption) ?_
        case hy4 => (intro w hSw; (try dsimp only at hSw); go_simp; try with_reducible rfl)
        try simp only [Act.put, List.setIfInBounds_toArray, List.set_cons_zero, List.set_cons_succ]
        refine take_lit (i := 5) (v := ?_) rfl (by kernel_rfl) (by kernel_rfl) (by kernel_rfl) (fun _ _ _ h => h) (Or.inl ⟨by rfl, ?hy5⟩) (by assumption) ?_
        case hy5 => (intro w hSw; (try dsimp only at hSw); go_simp; try with_reducible rfl)
        try simp only [Act.put, List.setIfInBounds_toArray, List.set_cons_zero, List.set_cons_succ]
        refine take_lit (i := 6) (v := ?_) rfl (by kernel_rfl) (by kernel_rfl) (by kernel_rfl) (fun _ _ _ h => h) (Or.inl ⟨by rfl, ?hy6⟩) (by assumption) ?_
        case hy6 => (intro w hSw; (try dsimp only at hSw); go_simp; try with_reducible rfl)
        try simp only [Act.put, List.setIfInBounds_toArray, List.set_cons_zero, List.set_cons_succ]
        refine next_lit (i := 7) rfl (by kernel_rfl) (fun KK hK => ?_)
        go_simp
        have hwa : Below wr.heap.size wr (wr.drew.alloc (.cells #[.int .i64 pf, .int .i64 pt] 79)) := (Below.refl _ _).drew.alloc (Nat.le_refl _) _
        have m1 := (hwa.cell (p := ⟨B, 1, none⟩) hBl).trans p1
        have m2 := (hwa.cell (p := ⟨w.heap.size, 1, none⟩) hwl).trans q1
        have m3 := (hwa.cell (p := ⟨lb, lof + k * 2, none⟩) hlb).trans c0
        have m4 := (hwa.cell (p := ⟨lb, lof + k * 2 + 1, none⟩) hlb).trans c1
        refine hK.out _ _ ⟨m1, m2, m3, m4⟩ (fun hHeld => ?_)
        clear hK KK hHeld
        try simp only [Act.put, List.setIfInBounds_toArray, List.set_cons_zero, List.set_cons_succ]
        refine next_lit (i := 8) rfl (by kernel_rfl) (fun KK hK => ?_)
        have hlv0 := ownsRow_below HO.out.lv hwa
        rw [hn] at hlv0
        refine step_append_lies _ (by rfl) _ _ _ (by rfl) B 79 ii _ 2 16 Try.underlying22 hii hi0 hi1 hi2 rfl (by omega) (.slice va n vc) n (encs (livF K g.lives k)) (by rfl) hlv0 ⟨wr.heap.size, 0, none⟩ 1 1 [.int .i64 pf, .int .i64 pt] (by rfl) (by rfl) (World.news_of_block (cs := #[.int .i64 pf, .int .i64 pt]) (t := 79) (fr := (0, 0)) (heap_alloc_new wr.drew _)) (by simp [Value.oneCell']) (by omega) (by unfold maxLen; omega) (by omega) (by simp; omega) (wr.heap.size + 1) (by simp [World.drew]) ?_
        intro gg cap1 w4 hown1 hgrow hat hltg
        have hown2 : w4.ownsRow B 79 2 (.slice (some ⟨gg, 0, none⟩) (n + 1) cap1) ((livF K g.lives k).length + 1) (encs (livF K g.lives k) ++ [.int .i64 pf, .int .i64 pt]) := by rw [hn]; exact hown1
        obtain ⟨hbox4, hG4⟩ := HO.out.life hwa hgrow hown2
        have x1 : w4.cell? ⟨B, 1, none⟩ = some (.slice va n vc) := by rw [Lib.cell_of_heap hbox4]; rfl
        have x2 : w4.cell? ⟨w.heap.size, 1, none⟩ = some (.slice (some ⟨lb, lof, none⟩) g.lives.length lc) := by rw [hgrow.cell_far _ (Nat.lt_of_lt_of_le hwl hwa.size) hne0]; exact m2
        have x3 : w4.cell? ⟨lb, lof + k * 2, none⟩ = some (.int .i64 pf) := by rw [hgrow.cell_far _ (Nat.lt_of_lt_of_le hlb hwa.size) hne1]; exact m3
        have x4 : w4.cell? ⟨lb, lof + k * 2 + 1, none⟩ = some (.int .i64 pt) := by rw [hgrow.cell_far _ (Nat.lt_of_lt_of_le hlb hwa.size) hne1]; exact m4
        have fz4 : w4.frozen? ⟨B, 1, none⟩ = false := Lib.frozen_of_heap hbox4 1
        have HB4 := hideg (((HB.out.trans (hwa.mono hBs)).grown hgrow (Nat.le_trans hBs hwa.size) (fun j hj => (hlv0.lt j hj).1)).setCell (p := ⟨B, 1, none⟩) (Nat.le_refl _) (.slice (some ⟨gg, 0, none⟩) (n + 1) cap1))
        have HG4 : Hid (GOwn B B (w4.setCell ⟨B, 1, none⟩ (.slice (some ⟨gg, 0, none⟩) (n + 1) cap1)) H (.slice (some ⟨gg, 0, none⟩) (n + 1) cap1) (.slice none 0 0) (livF K g.lives (k + 1)) []) := by rw [HLs.out]; exact hG4
        have hN4 := row_grown (ownsRow_below HN.out hwa) hlv0 hgrow (by decide)
        have HN4 := hideg (row_set (b := B) (j := 1) (u := .slice (some ⟨gg, 0, none⟩) (n + 1) cap1) hN4 (row_ne hN4 hbox4 (by decide)))
        refine hK.out _ _ ⟨x1, x2, x3, x4⟩ (fun hHeld => ?_)
        clear hK KK hwa m1 m2 m3 m4 hgrow hown1 hown2 hbox4 hG4 hat hltg hlv0 hN4
        try simp only [Act.put, List.setIfInBounds_toArray, List.set_cons_zero, List.set_cons_succ]
        refine take_lit (i := 9) (v := ?_) rfl (by kernel_rfl) (by kernel_rfl) (by kernel_rfl) (fun _ _ _ h => h) (Or.inl ⟨by rfl, ?hy9⟩) (by assumption) ?_
        case hy9 => (intro w hSw; (try dsimp only at hSw); go_simp; try with_reducible rfl)
        try simp only [Act.put, List.setIfInBounds_toArray, List.set_cons_zero, List.set_cons_succ]
        refine wpAnyH_done (by kernel_rfl) ?_ _
        refine back_last (fun KK hK => ?_)
        clear hHeld
        go_simp
        refine hK.out _ _ ?_
        clear hK KK x1 x2 x3 x4 fz4 HO HN HB hkc p1 c0 c1 q0 q1 q2
        generalize w4.setCell ⟨B, 1, none⟩ (.slice (some ⟨gg, 0, none⟩) (n + 1) cap1) = w5 at *
        obtain ⟨va2, vc2, rfl, _, _⟩ := row_form HN4.out
        obtain ⟨wb, hwb⟩ : ∃ x, x = w5.alloc (.cells #[.int .i64 (k : Int)] 3) := ⟨_, rfl⟩
        have bb : Below w5.heap.size w5 wb := by rw [hwb]; exact gal w5 _
        have HNb := hideg (ownsRow_below HN4.out bb)
        have hB5 : B ≤ w5.heap.size := Nat.le_of_lt (heap_ltg HG4.out.box)
        have hNew := World.news_of_block (w := wb) (B := w5.heap.size) (cs := #[.int .i64 (k : Int)]) (t := 3) (fr := (0, 0)) (by rw [hwb]; exact heap_alloc_new w5 _)
        have HNew := hideg hNew
        have HBb := hideg bb
        have hbsz : B ≤ wb.heap.size := Nat.le_trans hB5 bb.size
        have HWB := hideg hwb.symm
        clear bb hNew hwb
        go_wp2_with (at_builtin; rw [HWB.out]; refine wpList_append_own_at _ rfl _ _ 28 rfl B 3 in' _ 1 8 Try.underlying28 hin hn0 hn1 hn2 rfl (by decide) _ _ _ rfl HNb.out ⟨w5.heap.size, 0, none⟩ 1 1 [.int .i64 (k : Int)] rfl rfl HNew.out (by intro u hu; simp at hu; subst hu; rfl) (by unfold maxLen; omega) (by omega) hbsz ?_; intro v' w6 hown6 hgrow _ _; have HN6 := hideg hown6; have HG6 := hideg ((HG4.out.below HBb.out).beside HNb.out hgrow); have HB6 := hideg ((HB4.out.trans (HBb.out.mono hB5)).grown hgrow hbsz (fun q hq => (HNb.out.lt q hq).1)); clear hown6 hgrow)
        have HN7 : Hid (w6.ownsRow B 3 1 v' (oldF K (k + 1)).length ((oldF K (k + 1)).map (Value.int .i64))) := by
          have := HN6.out
          show World.ownsRow _ _ _ _ _ _ _
          rw [HOs.out, List.length_append, List.map_append]; exact this
        go_wp2
        go_roundw
        case rel => exact ⟨k + 1, by omega, by omega, ⟨_, HG6.out⟩, HN7.out, HB6.out⟩
        case measure => simp [intOf]; omega
    · have hkn : ¬ ((k : Int) < (K.length : Int)) := by omega
      obtain rfl : k = K.length := by omega
      have HO := hideg hO
      have HN := hideg hN
      have HB := hideg hb
      have HSm : Hid (K.length = g.lives.length) := hl
      clear hO hN hb hGA hKA qR hbw hlt q0 q1 q2 hl
      obtain ⟨wo, hwo⟩ : ∃ x, x = wr := ⟨_, rfl⟩
      subst hwo
      go_wp2_with fail
      go_loopw [8] (fun i wr => ∃ (k : Nat) (vE : Value) (L : List (Ed × Value)), k ≤ g.edges.length ∧ i = .int .i64 (k : Int) ∧ GOwn B B wr H vL vE (livF K g.lives K.length) L ∧ L.map (·.1) = partEs K g k ∧ wr.ownsRow B 3 1 vo (oldF K K.length).length ((oldF K K.length).map (Value.int .i64)) ∧ Below B wA wr) (fun i _ => g.edges.length - (intOf i).toNat)
      case atStart => exact ⟨0, _, [], Nat.zero_le _, rfl, HO.out, rfl, HN.out, HB.out⟩
      case round =>
        clear HO HB HN
        obtain ⟨i, vE, L, hi, rfl, hO, hLm, hN, hb⟩ := hrel
        obtain ⟨q0, q1, q2, qR, hGA, hKA, hbw⟩ := HGx.out wr hb
        by_cases hlt2 : i < g.edges.length
        · have hii2 : (i : Int) < (g.edges.length : Int) := by omega
          have hiw : IntKind.i64.wrap ((i : Int) + 1) = (i : Int) + 1 := wrap_nj _ (by omega) (by omega)
          obtain ⟨eb, eof, lo, lcap, rfl, hed⟩ := HEd.out i hlt2
          obtain ⟨c0, c1, c2, _⟩ := hed wr hbw
          have hel := HRt.out.ends _ (List.getElem_mem hlt2)
          have HSu := hideg (partEs_succ (K := K) hlt2)
          have HLen := hideg (partEs_len K g i hi)
          have HLg : Hid (∀ W, Below B wA W → LgAt W lo g.edges[i].2.2) := fun W hW => (hed W (HGx.out W hW).2.2.2.2.2.2).2.2.2
          generalize g.edges[i] = e at *
          obtain ⟨A, C, legs⟩ := e
          simp only at c0 c1 c2 hel HSu HLg
          obtain ⟨wx, hwx⟩ : ∃ x, x = wr.alloc (.cells #[.int .i64 A, .int .i64 C, .slice lo legs.length lcap] 51) := ⟨_, rfl⟩
          have bx : Below wr.heap.size wr wx := by rw [hwx]; exact gal wr _
          obtain ⟨XB, hXB⟩ : ∃ x, x = wr.heap.size := ⟨_, rfl⟩
          have y0 : wx.cell? ⟨XB, 0, none⟩ = some (.int .i64 A) := by rw [hwx, hXB]; exact new_cell rfl rfl
          have y1 : wx.cell? ⟨XB, 1, none⟩ = some (.int .i64 C) := by rw [hwx, hXB]; exact new_cell rfl rfl
          have y2 : wx.cell? ⟨XB, 2, none⟩ = some (.slice lo legs.length lcap) := by rw [hwx, hXB]; exact new_cell rfl rfl
          have hXl : XB < wx.heap.size := by rw [hwx, hXB]; simp
          have hEX : vE.ownBlock ≠ some XB := fun e => by have := (hO.ed.lt XB e).2; omega
          have HOx := hideg (hO.below bx)
          have HNx := hideg (ownsRow_below hN bx)
          have HBx := hideg (hb.trans (bx.mono (by have := heap_ltg hO.box; omega)))
          have HLm := hideg hLm
          have hXw : B < XB := by have := heap_ltg hO.box; omega
          have HWX := hideg hwx.symm
          clear hO hb hN hGA hKA hed qR hbw bx hLm hwx
          go_wp2_with fail
          rw [HWX.out, ← hXB]
          clear HWX hXB c0 c1 c2 q0 q1 q2
          obtain ⟨zo, zc, ez, hZ⟩ := zsAt_of_owns HNx.out
          have holK := old_len K K.length
          have hIx : Hid (∀ x W, Below wx.heap.size wx W → Calls Try.prog 49 #[vo, .int .i64 x] W fun e w' => (∃ r, e = .returned (.int .i64 r) ∧ intAt x (oldF K K.length) r) ∧ Below W.heap.size W w') := by
            intro x W hW
            rw [ez]
            exact IndexIntX_any zo zc (oldF K K.length) x W (hZ.below hW) (by have := HSm.out; omega)
          clear hZ ez
          refine Go.wp_region_held (S := fun w' => w'.cell? ⟨XB, 0, none⟩ = some (.int .i64 A) ∧ w'.cell? ⟨XB, 1, none⟩ = some (.int .i64 C)) (by kernel_rfl) ?_
          generalize hw8 : ({ wx with drawn := wx.drawn + 1 } : World) = wy
          have hby : Below wx.heap.size wx wy := by rw [← hw8]; exact below_drewN (Below.refl _ _) 1
          have hS0 : wy.cell? ⟨XB, 0, none⟩ = some (.int .i64 A) ∧ wy.cell? ⟨XB, 1, none⟩ = some (.int .i64 C) := ⟨(hby.cell (p := ⟨XB, 0, none⟩) hXl).trans y0, (hby.cell (p := ⟨XB, 1, none⟩) hXl).trans y1⟩
          clear hw8
          refine take_lit (i := 0) (v := ?_) rfl (by kernel_rfl) (by kernel_rfl) (by kernel_rfl) (fun _ _ _ h => h) (Or.inl ⟨by rfl, ?hy0⟩) (by assumption) ?_
          case hy0 => (intro w hSw; (try dsimp only at hSw); go_simp; try with_reducible rfl)
          try simp only [Act.put, List.setIfInBounds_toArray, List.set_cons_zero, List.set_cons_succ]
          refine take_lit (i := 1) (v := ?_) rfl (by kernel_rfl) (by kernel_rfl) (by kernel_rfl) (fun _ _ _ h => h) (Or.inl ⟨by rfl, ?hy1⟩) (by assumption) ?_
          case hy1 => (intro w hSw; (try dsimp only at hSw); go_simp; try with_reducible rfl)
          try simp only [Act.put, List.setIfInBounds_toArray, List.set_cons_zero, List.set_cons_succ]
          refine take_lit (i := 2) (v := ?_) rfl (by kernel_rfl) (by kernel_rfl) (by kernel_rfl) (fun _ _ _ h => h) (Or.inl ⟨by rfl, ?hy2⟩) (by assumption) ?_
          case hy2 => (intro w hSw; (try dsimp only at hSw); go_simp; try with_reducible rfl)
          try simp only [Act.put, List.setIfInBounds_toArray, List.set_cons_zero, List.set_cons_succ]
          refine take_lit (i := 4) (v := ?_) rfl (by kernel_rfl) (by kernel_rfl) (by kernel_rfl) (fun _ _ _ h => h) (Or.inl ⟨by rfl, ?hy4⟩) (by assumption) ?_
          case hy4 => (intro w hSw; (try dsimp only at hSw); go_simp; try with_reducible rfl)
          try simp only [Act.put, List.setIfInBounds_toArray, List.set_cons_zero, List.set_cons_succ]
          refine take_lit (i := 5) (v := ?_) rfl (by kernel_rfl) (by kernel_rfl) (by kernel_rfl) (fun _ _ _ h => h) (Or.inl ⟨by rfl, ?hy5⟩) (by assumption) ?_
          case hy5 => (intro w hSw; (try dsimp only at hSw); go_simp; try with_reducible rfl)
          try simp only [Act.put, List.setIfInBounds_toArray, List.set_cons_zero, List.set_cons_succ]
          refine take_lit (i := 6) (v := ?_) rfl (by kernel_rfl) (by kernel_rfl) (by kernel_rfl) (fun _ _ _ h => h) (Or.inl ⟨by rfl, ?hy6⟩) (by assumption) ?_
          case hy6 => (intro w hSw; (try dsimp only at hSw); go_simp; try with_reducible rfl)
          try simp only [Act.put, List.setIfInBounds_toArray, List.set_cons_zero, List.set_cons_succ]
          refine next_lit (i := 3) rfl (by kernel_rfl) (fun KK hK => ?_)
          go_simp
          refine (hIx.out A _ hby).mono ?_
          rintro r w3 ⟨⟨ra, rfl, hra⟩, hb3⟩
          have hby3 : Below wx.heap.size wx w3 := hby.trans (hb3.mono hby.size)
          have hS3 : w3.cell? ⟨XB, 0, none⟩ = some (.int .i64 A) ∧ w3.cell? ⟨XB, 1, none⟩ = some (.int .i64 C) := ⟨(hby3.cell (p := ⟨XB, 0, none⟩) hXl).trans y0, (hby3.cell (p := ⟨XB, 1, none⟩) hXl).trans y1⟩
          refine hK.out _ _ hS3 (fun _ => ?_)
          clear hK KK hS0 hb3 hby
          try simp only [Act.put, List.setIfInBounds_toArray, List.set_cons_zero, List.set_cons_succ]
          refine next_lit (i := 7) rfl (by kernel_rfl) (fun KK hK => ?_)
          go_simp
          refine (hIx.out C _ hby3).mono ?_
          rintro r w4 ⟨⟨rb, rfl, hrb⟩, hb4⟩
          have hby4 : Below wx.heap.size wx w4 := hby3.trans (hb4.mono hby3.size)
          have hS4 : w4.cell? ⟨XB, 0, none⟩ = some (.int .i64 A) ∧ w4.cell? ⟨XB, 1, none⟩ = some (.int .i64 C) := ⟨(hby4.cell (p := ⟨XB, 0, none⟩) hXl).trans y0, (hby4.cell (p := ⟨XB, 1, none⟩) hXl).trans y1⟩
          refine hK.out _ _ hS4 (fun _ => ?_)
          clear hK KK hS3 hb4 hby3
          try simp only [Act.put, List.setIfInBounds_toArray, List.set_cons_zero, List.set_cons_succ]
          refine take_lit (i := 8) (v := ?_) rfl (by kernel_rfl) (by kernel_rfl) (by kernel_rfl) (fun _ _ _ h => h) (Or.inl ⟨by rfl, ?hy8⟩) (by assumption) ?_
          case hy8 => (intro w hSw; (try dsimp only at hSw); go_simp; try with_reducible rfl)
          try simp only [Act.put, List.setIfInBounds_toArray, List.set_cons_zero, List.set_cons_succ]
          refine take_lit (i := 9) (v := ?_) rfl (by kernel_rfl) (by kernel_rfl) (by kernel_rfl) (fun _ _ _ h => h) (Or.inl ⟨by rfl, ?hy9⟩) (by assumption) ?_
          case hy9 => (intro w hSw; (try dsimp only at hSw); go_simp; try with_reducible rfl)
          try simp only [Act.put, List.setIfInBounds_toArray, List.set_cons_zero, List.set_cons_succ]
          refine wpAnyH_done (by kernel_rfl) ?_ _
          have hra := intAt_old (by have := HSm.out; omega) hra
          have hrb := intAt_old (by have := HSm.out; omega) hrb
          have u2 := (hby4.cell (p := ⟨XB, 2, none⟩) hXl).trans y2
          have HO4 := hideg (HOx.out.below hby4)
          have HN4 := hideg (ownsRow_below HNx.out hby4)
          have hBx := heap_ltg HOx.out.box
          have HB4 := hideg (HBx.out.trans (hby4.mono (Nat.le_of_lt hBx)))
          have hXl4 : XB < w4.heap.size := Nat.lt_of_lt_of_le hXl hby4.size
          clear hS4 hby4 HOx HNx HBx hIx y0 y1 y2
          have hdone : (K.getD A.toNat false = true ∧ ra = rkF K A ∧ K.getD C.toNat false = true ∧ rb = rkF K C) ∨ (¬ (0 ≤ ra) ∧ partE K (A, C, legs) = []) ∨ (0 ≤ ra ∧ ¬ (0 ≤ rb) ∧ partE K (A, C, legs) = []) := by
            rcases hra with ⟨h1, rfl⟩ | ⟨h1, rfl⟩
            · rcases hrb with ⟨h2, rfl⟩ | ⟨h2, rfl⟩
              · exact .inl ⟨h1, rfl, h2, rfl⟩
              · refine .inr (.inr ⟨by unfold rkF; omega, by omega, ?_⟩)
                unfold partE; rw [if_neg (by simp only; rw [h2]; simp)]
            · refine .inr (.inl ⟨by omega, ?_⟩)
              unfold partE; rw [if_neg (by simp only; rw [h1]; simp)]
          clear hra hrb
          have HLm4 : Hid (partE K (A, C, legs) = [] → L.map (·.1) = partEs K g (i + 1)) := fun h => by rw [HSu.out, h, List.append_nil]; exact HLm.out
          rcases hdone with ⟨k1, rfl, k2, rfl⟩ | ⟨k1, k2⟩ | ⟨k1, k2, k3⟩
          · have HEe : Hid (partE K (A, C, legs) = [(rkF K A, rkF K C, legs)]) := by show _ = _; unfold partE; rw [if_pos ⟨k1, k2⟩]
            have ha0 : 0 ≤ rkF K A := by unfold rkF; omega
            have hb0 : 0 ≤ rkF K C := by unfold rkF; omega
            generalize rkF K A = ra at *
            generalize rkF K C = rb at *
            have p2 : w4.cell? ⟨B, 2, none⟩ = some vE := by rw [Lib.cell_of_heap HO4.out.box]; rfl
            obtain ⟨va, vc, rfl, _, _⟩ := row_form HO4.out.ed
            have hLL : L.length ≤ 30 := by
              have h1 : L.length = (L.map (·.1)).length := by simp
              have h3 := HLen.out
              rw [h1, HLm.out]; omega
            have hLg4 : LgAt w4 lo legs := HLg.out w4 HB4.out
            have hB4 : B < w4.heap.size := heap_ltg HO4.out.box
            have HLG := hideg hLg4
            clear k1 k2 HLm4 hLg4 HLg
            go_wp2_with fail
            have hneX : some XB ≠ (Value.slice va L.length vc).ownBlock := fun e => hEX e.symm
            refine wp_region_back (S := fun w' => w'.cell? ⟨B, 2, none⟩ = some (.slice va L.length vc) ∧ w'.cell? ⟨XB, 2, none⟩ = some (.slice lo legs.length lcap)) (by kernel_rfl) (by simp) (by kernel_rfl) (by kernel_rfl) ⟨p2, u2⟩ (fun hHeld => ?_)
            simp only [List.pop_toArray, List.dropLast, List.back!_toArray, List.getLast!]
            refine take_lit (i := 0) (v := ?_) rfl (by kernel_rfl) (by kernel_rfl) (by kernel_rfl) (fun _ _ _ h => h) (Or.inl ⟨by rfl, ?hy0⟩) (by assumption) ?_
            case hy0 => (intro w hSw; (try dsimp only at hSw); go_simp; try with_reducible rfl)
            try simp only [Act.put, List.setIfInBounds_toArray, List.set_cons_zero, List.set_cons_succ]
            refine take_lit (i := 1) (v := ?_) rfl (by kernel_rfl) (by kernel_rfl) (by kernel_rfl) (fun _ _ _ h => h) (Or.inl ⟨by rfl, ?hy1⟩) (by assumption) ?_
            case hy1 => (intro w hSw; (try dsimp only at hSw); go_simp; try with_reducible rfl)
            try simp only [Act.put, List.setIfInBounds_toArray, List.set_cons_zero, List.set_cons_succ]
            refine take_lit (i := 2) (v := ?_) rfl (by kernel_rfl) (by kernel_rfl) (by kernel_rfl) (fun _ _ _ h => h) (Or.inl ⟨by rfl, ?hy2⟩) (by assumption) ?_
            case hy2 => (intro w hSw; (try dsimp only at hSw); go_simp; try with_reducible rfl)
            try simp only [Act.put, List.setIfInBounds_toArray, List.set_cons_zero, List.set_cons_succ]
            refine take_lit (i := 3) (v := ?_) rfl (by kernel_rfl) (by kernel_rfl) (by kernel_rfl) (fun _ _ _ h => h) (Or.inl ⟨by rfl, ?hy3⟩) (by assumption) ?_
            case hy3 => (intro w hSw; (try dsimp only at hSw); go_simp; try with_reducible rfl)
            try simp only [Act.put, List.setIfInBounds_toArray, List.set_cons_zero, List.set_cons_succ]
            refine take_lit (i := 4) (v := ?_) rfl (by kernel_rfl) (by kernel_rfl) (by kernel_rfl) (fun _ _ _ h => h) (Or.inl ⟨by rfl, ?hy4⟩) (by assumption) ?_
            case hy4 => (intro w hSw; (try dsimp only at hSw); go_simp; try with_reducible rfl)
            try simp only [Act.put, List.setIfInBounds_toArray, List.set_cons_zero, List.set_cons_succ]
            refine take_lit (i := 5) (v := ?_) rfl (by kernel_rfl) (by kernel_rfl) (by kernel_rfl) (fun _ _ _ h => h) (Or.inl ⟨by rfl, ?hy5⟩) (by assumption) ?_
            case hy5 => (intro w hSw; (try dsimp only at hSw); go_simp; try with_reducible rfl)
            try simp only [Act.put, List.setIfInBounds_toArray, List.set_cons_zero, List.set_cons_succ]
            refine next_lit (i := 6) rfl (by kernel_rfl) (fun KK hK => ?_)
            have bd : Below w4.heap.size w4 w4.drew := (Below.refl _ _).drew
            refine step_copy (by rfl) _ _ (by rfl) (lo := lo) (lcap := lcap) (legs := legs) (by rfl) (by rfl) (HLG.out.below bd) (by omega) (B := B) (Nat.le_of_lt hB4) ?_
            intro vg wg hvg hbg hfg
            have hbg4 : Below w4.heap.size w4 wg := bd.trans hbg
            have m1 := (hbg4.cell (p := ⟨B, 2, none⟩) hB4).trans p2
            have m2 := (hbg4.cell (p := ⟨XB, 2, none⟩) hXl4).trans u2
            refine hK.out _ _ ⟨m1, m2⟩ (fun hHeld => ?_)
            clear hK KK
            obtain ⟨vgo, vgc, rfl, _, _⟩ := row_form hvg
            try simp only [Act.put, List.setIfInBounds_toArray, List.set_cons_zero, List.set_cons_succ]
            refine take_lit (i := 7) (v := ?_) rfl (by kernel_rfl) (by kernel_rfl) (by kernel_rfl) (fun _ _ _ h => h) (Or.inl ⟨by rfl, ?hy7⟩) (by assumption) ?_
            case hy7 => (intro w hSw; (try dsimp only at hSw); go_simp; try with_reducible rfl)
            try simp only [Act.put, List.setIfInBounds_toArray, List.set_cons_zero, List.set_cons_succ]
            clear hHeld
            refine next_lit (i := 8) rfl (by kernel_rfl) (fun KK hK => ?_)
            go_simp
            have hwa : Below w4.heap.size w4 (wg.alloc (.cells #[.int .i64 ra, .int .i64 rb, .slice vgo legs.length vgc] 51)) := hbg4.alloc hbg4.size _
            have n1 := (hwa.cell (p := ⟨B, 2, none⟩) hB4).trans p2
            have n2 := (hwa.cell (p := ⟨XB, 2, none⟩) hXl4).trans u2
            refine hK.out _ _ ⟨n1, n2⟩ (fun hHeld => ?_)
            clear hK KK hHeld m1 m2
            try simp only [Act.put, List.setIfInBounds_toArray, List.set_cons_zero, List.set_cons_succ]
            refine next_lit (i := 9) rfl (by kernel_rfl) (fun KK hK => ?_)
            have hvg2 := ownsRow_below hvg (gal wg (.cells #[.int .i64 ra, .int .i64 rb, .slice vgo legs.length vgc] 51))
            have hed0 := ownsRow_below HO4.out.ed hwa
            have hzg := hbg4.size
            refine step_append_lies _ (by rfl) _ _ _ (by rfl) B 51 ie _ 3 40 Try.underlying23 hie he0 he1 he2 rfl (by omega) (.slice va L.length vc) L.length (encE L) (by rfl) hed0 ⟨wg.heap.size, 0, none⟩ 1 1 [.int .i64 ra, .int .i64 rb, .slice vgo legs.length vgc] (by rfl) (by rfl) (World.news_of_block (cs := #[.int .i64 ra, .int .i64 rb, .slice vgo legs.length vgc]) (t := 51) (fr := (0, 0)) (heap_alloc_new wg _)) (by intro u hu; simp at hu; rcases hu with rfl | rfl | rfl <;> rfl) (by omega) (by unfold maxLen; omega) (by omega) (by simp; omega) (wg.heap.size + 1) (by simp) ?_
            intro gg cap1 w6 hown6 hgrow hat hltg
            obtain ⟨hbox6, hG6⟩ := HO4.out.edgeL hwa hgrow hvg2 (fun k e => by have := hfg k e; have h2 : w4.drew.heap.size = w4.heap.size := rfl; omega) hown6
            have x1 : w6.cell? ⟨B, 2, none⟩ = some (.slice va L.length vc) := by rw [Lib.cell_of_heap hbox6]; rfl
            have x2 : w6.cell? ⟨XB, 2, none⟩ = some (.slice lo legs.length lcap) := by rw [hgrow.cell_far _ (Nat.lt_of_lt_of_le hXl4 hwa.size) hneX]; exact n2
            have fz6 : w6.frozen? ⟨B, 2, none⟩ = false := Lib.frozen_of_heap hbox6 2
            have HB6 := hideg (((HB4.out.trans (hwa.mono (Nat.le_of_lt hB4))).grown hgrow (Nat.le_trans (Nat.le_of_lt hB4) hwa.size) (fun j hj => (hed0.lt j hj).1)).setCell (p := ⟨B, 2, none⟩) (Nat.le_refl _) (.slice (some ⟨gg, 0, none⟩) (L.length + 1) cap1))
            have HG6 := hideg hG6
            have hN6 := row_grown (ownsRow_below HN4.out hwa) hed0 hgrow (by decide)
            have HN6 := hideg (row_set (b := B) (j := 2) (u := .slice (some ⟨gg, 0, none⟩) (L.length + 1) cap1) hN6 (row_ne hN6 hbox6 (by decide)))
            have HLm6 : Hid ((L ++ [((ra, rb, legs), Value.slice vgo legs.length vgc)]).map (·.1) = partEs K g (i + 1)) := by
              show _ = _
              rw [HSu.out, HEe.out, List.map_append, HLm.out]; rfl
            refine hK.out _ _ ⟨x1, x2⟩ (fun hHeld => ?_)
            clear hK KK hwa n1 n2 hgrow hown6 hbox6 hG6 hat hltg hed0 hN6 hvg hvg2 hbg hbg4 hfg hzg bd
            try simp only [Act.put, List.setIfInBounds_toArray, List.set_cons_zero, List.set_cons_succ]
            refine take_lit (i := 10) (v := ?_) rfl (by kernel_rfl) (by kernel_rfl) (by kernel_rfl) (fun _ _ _ h => h) (Or.inl ⟨by rfl, ?hy10⟩) (by assumption) ?_
            case hy10 => (intro w hSw; (try dsimp only at hSw); go_simp; try with_reducible rfl)
            try simp only [Act.put, List.setIfInBounds_toArray, List.set_cons_zero, List.set_cons_succ]
            refine wpAnyH_done (by kernel_rfl) ?_ _
            refine back_last (fun KK hK => ?_)
            clear hHeld
            go_simp
            refine hK.out _ _ ?_
            clear hK KK x1 x2 fz6
            go_wp2
            go_roundw
            case rel => exact ⟨i + 1, _, _, by omega, by go_num, HG6.out, HLm6.out, HN6.out, HB6.out⟩
            case measure => simp [intOf]; omega
          · have HLm5 := hideg (HLm4.out k2)
            clear HLm4 HLm k2
            go_wp2
            go_roundw
            case rel => exact ⟨i + 1, _, L, by omega, by go_num, HO4.out, HLm5.out, HN4.out, HB4.out⟩
            case measure => simp [intOf]; omega
          · have HLm5 := hideg (HLm4.out k3)
            clear HLm4 HLm k3
            go_wp2
            go_roundw
            case rel => exact ⟨i + 1, _, L, by omega, by go_num, HO4.out, HLm5.out, HN4.out, HB4.out⟩
            case measure => simp [intOf]; omega
        · have hin2 : ¬ ((i : Int) < (g.edges.length : Int)) := by omega
          obtain rfl : i = g.edges.length := by omega
          have hR0 : wr.cell? ⟨w.heap.size + 1, 0, none⟩ = some (.int .i64 0) := by rw [Lib.cell_of_heap qR]; rfl
          have hR1 : wr.cell? ⟨w.heap.size + 1, 1, none⟩ = some (.slice none 0 0) := by rw [Lib.cell_of_heap qR]; rfl
          have hR2 : wr.cell? ⟨w.heap.size + 1, 2, none⟩ = some (.slice none 0 0) := by rw [Lib.cell_of_heap qR]; rfl
          have f0 : wr.frozen? ⟨w.heap.size + 1, 0, none⟩ = false := Lib.frozen_of_heap qR 0
          have f1 : wr.frozen? ⟨w.heap.size + 1, 1, none⟩ = false := Lib.frozen_of_heap qR 1
          have f2 : wr.frozen? ⟨w.heap.size + 1, 2, none⟩ = false := Lib.frozen_of_heap qR 2
          have s0 : wr.cell? ⟨B, 0, none⟩ = some (.int .i64 H) := by rw [Lib.cell_of_heap hO.box]; rfl
          have s1 : wr.cell? ⟨B, 1, none⟩ = some vL := by rw [Lib.cell_of_heap hO.box]; rfl
          have s2 : wr.cell? ⟨B, 2, none⟩ = some vE := by rw [Lib.cell_of_heap hO.box]; rfl
          obtain ⟨lo, lc2, rfl, _, _⟩ := row_form hO.lv
          obtain ⟨eo, ec2, rfl, _, _⟩ := row_form hO.ed
          have HFin : Hid (∀ a b c, GOwn B B (((wr.setCell ⟨w.heap.size + 1, 0, none⟩ a).setCell ⟨w.heap.size + 1, 1, none⟩ b).setCell ⟨w.heap.size + 1, 2, none⟩ c) H (.slice lo (livF K g.lives K.length).length lc2) (.slice eo L.length ec2) (livF K g.lives K.length) L) := fun a b c => ((hO.setLow hwB 0 a).setLow hwB 1 b).setLow hwB 2 c
          have HBF : Hid (∀ a b c, Below w.heap.size w (((wr.setCell ⟨w.heap.size + 1, 0, none⟩ a).setCell ⟨w.heap.size + 1, 1, none⟩ b).setCell ⟨w.heap.size + 1, 2, none⟩ c)) := fun a b c => ((hbw.setCell (p := ⟨w.heap.size + 1, 0, none⟩) (by simp) a).setCell (p := ⟨w.heap.size + 1, 1, none⟩) (by simp) b).setCell (p := ⟨w.heap.size + 1, 2, none⟩) (by simp) c
          have HLm := hideg hLm
          have HLl : Hid (L.length = (partEs K g g.edges.length).length) := by show _ = _; rw [← hLm]; simp
          have HGt : Hid (∀ a b c, GNew w.heap.size (((wr.setCell ⟨w.heap.size + 1, 0, none⟩ a).setCell ⟨w.heap.size + 1, 1, none⟩ b).setCell ⟨w.heap.size + 1, 2, none⟩ c) lo eo ⟨H, livF K g.lives K.length, partEs K g g.edges.length⟩) := by
            intro a b c
            rw [← hLm]
            exact (HFin.out a b c).new (by omega) rfl rfl
          clear hO hN hb hGA hKA qR hbw hLm HFin
          go_wp2
          exact bodyPost_ret (v := .agg #[.int .i64 H, .slice lo (livF K g.lives K.length).length lc2, .slice eo L.length ec2]) (by simp [results, Try.results31, go_sem, hR0, hR1, hR2]) rfl ⟨lo, eo, ⟨lc2, ec2, by rw [HLl.out]⟩, HGt.out _ _ _, HBF.out _ _ _⟩

end Go.Proofs.Ytanbbkoleekmjac
