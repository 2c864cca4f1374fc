/-
  What Reverse of the reference answers.
-/
import Derived.Test.YtanbbkoleekmjacGRow
import Derived.Test.YtanbbkoleekmjacTnMath
import Derived.Test.YtanbbkoleekmjacPop
import Derived.Test.YtanbbkoleekmjacJpB
namespace Go.Proofs.Ytanbbkoleekmjac
open Go.RowKit

/-- an edge with its legs at once -/
theorem GOwn.edgeL {B b : Nat} {w wa w1 : World} {hor : Int} {vL vE v' v : Value} {lives : List (Int × Int)} {L : List (Ed × Value)} {x y : Int} {legs : List Lg} (h : GOwn B b w hor vL vE lives L) (hb : Below w.heap.size w wa) (hg : wa.grownBy w1 vE.ownBlock)
    (hv : wa.ownsRow B 81 4 v legs.length (enc4 legs)) (hf : ∀ k, v.ownBlock = some k → w.heap.size ≤ k) (ho : w1.ownsRow B 51 3 v' (L.length + 1) (encE L ++ [.int .i64 x, .int .i64 y, v])) :
    w1.heap[b]? = some (.cells #[.int .i64 hor, vL, vE] 25 (0, 0)) ∧ GOwn B b (w1.setCell ⟨b, 2, none⟩ v') hor vL v' lives (L ++ [((x, y, legs), v)]) := by
  have ha := h.below hb
  have hbox : w1.heap[b]? = some (.cells #[.int .i64 hor, vL, vE] 25 (0, 0)) := by rw [hg.block b (heap_ltg ha.box) (fun k => row_ne ha.ed ha.box (by decide) k.symm)]; exact ha.box
  have hlv := row_grown ha.lv ha.ed hg (by decide)
  have hlg := fun p hp => row_grown (ha.lg p hp) ha.ed hg (by decide)
  have hv1 := row_grown hv ha.ed hg (by decide)
  refine ⟨hbox, by rw [box_set hbox]; rfl, h.low, row_set hlv (row_ne hlv hbox (by decide)), ?_, fun p hp => ?_, fun M p e q hq => ?_⟩
  · have := row_set (b := b) (j := 2) (u := v') ho (row_ne ho hbox (by decide))
    rw [List.length_append, encE_append]
    exact this
  · rcases List.mem_append.1 hp with k | k
    · exact row_set (hlg p k) (row_ne (hlg p k) hbox (by decide))
    · rw [List.mem_singleton.1 k]
      exact row_set hv1 (row_ne hv1 hbox (by decide))
  · have e2 := List.append_inj_right' e rfl
    have e1 := List.append_inj_left' e rfl
    simp only [List.cons.injEq, and_true] at e2
    subst e2 e1
    cases hq' : q.2.ownBlock with
    | none => exact .inl rfl
    | some k =>
      right
      intro hk
      have h1 := ((h.lg q hq).lt k hq').2
      have h2 := hf k hk.symm
      omega

theorem GOwn.setLow {B b R : Nat} {w : World} {hor : Int} {vL vE : Value} {lives : List (Int × Int)} {L : List (Ed × Value)} (h : GOwn B b w hor vL vE lives L) (hR : R < B) (j : Nat) (u : Value) : GOwn B b (w.setCell ⟨R, j, none⟩ u) hor vL vE lives L := by
  have ne : ∀ {e size n : Nat} {v : Value} {xs : List Value}, w.ownsRow B e size v n xs → v.ownBlock ≠ some R := fun h e => by have := (h.lt R e).1; omega
  have hl := h.low
  exact ⟨by rw [Below.heap_setCell _ _ _ _ (by show b ≠ R; omega)]; exact h.box, h.low, row_set h.lv (ne h.lv), row_set h.ed (ne h.ed), fun p hp => row_set (h.lg p hp) (ne (h.lg p hp)), h.ap⟩

/-- a graph in memory from base on: whatever becomes of what lies below, it lies there -/
def GNew (base : Nat) (w : World) (la ea : Option Addr) (g : Gr) : Prop := ∀ W : World, w.heap.size ≤ W.heap.size → (∀ b, base ≤ b → b < w.heap.size → W.heap[b]? = w.heap[b]?) → GAt W la ea g
theorem GNew.gat {base : Nat} {w : World} {la ea : Option Addr} {g : Gr} (h : GNew base w la ea g) : GAt w la ea g := h w (Nat.le_refl _) (fun _ _ _ => rfl)
theorem GNew.below {base : Nat} {w w' : World} {la ea : Option Addr} {g : Gr} (h : GNew base w la ea g) (hb : Below w.heap.size w w') : GNew base w' la ea g := fun W h1 h2 => h W (Nat.le_trans hb.size h1) fun b k1 k2 => (h2 b k1 (Nat.lt_of_lt_of_le k2 hb.size)).trans (hb.block b k2)
theorem GNew.set {base : Nat} {w : World} {la ea : Option Addr} {g : Gr} (h : GNew base w la ea g) {D : Nat} (hD : D < base) (j : Nat) (u : Value) : GNew base (w.setCell ⟨D, j, none⟩ u) la ea g := fun W h1 h2 => h W (by simpa [World.setCell] using h1) fun b k1 k2 => by
  rw [h2 b k1 (by simpa [World.setCell] using k2), Below.heap_setCell _ _ _ _ (by show b ≠ D; omega)]
theorem GNew.zero (base : Nat) (w : World) : GNew base w none none ⟨0, [], []⟩ := fun _ _ _ => ⟨.inl rfl, .inl rfl, by simp, by simp⟩
theorem row_moved {w W : World} {B e size n : Nat} {v : Value} {xs : List Value} (h : w.ownsRow B e size v n xs) (h2 : ∀ b, B ≤ b → b < w.heap.size → W.heap[b]? = w.heap[b]?) : W.ownsRow B e size v n xs := by
  refine ⟨h.1, ?_⟩
  rcases h.2 with h0 | ⟨g, cap, cur, e1, hb, hh, h3⟩
  · exact .inl h0
  · exact .inr ⟨g, cap, cur, e1, hb, by rw [h2 g hb (heap_ltg hh)]; exact hh, h3⟩
theorem GOwn.new {B b base : Nat} {w : World} {hor : Int} {vL vE : Value} {lives : List (Int × Int)} {L : List (Ed × Value)} (h : GOwn B b w hor vL vE lives L) (hB : base ≤ B) {la ea : Option Addr} {lc ec : Nat} (e1 : vL = .slice la lives.length lc) (e2 : vE = .slice ea L.length ec) : GNew base w la ea ⟨hor, lives, L.map (·.1)⟩ := by
  intro W _ h2
  have h3 : ∀ b, B ≤ b → b < w.heap.size → W.heap[b]? = w.heap[b]? := fun b k1 k2 => h2 b (by omega) k2
  have hW : GOwn B b W hor vL vE lives L := ⟨by rw [h3 b h.low (heap_ltg h.box)]; exact h.box, h.low, row_moved h.lv h3, row_moved h.ed h3, fun p hp => row_moved (h.lg p hp) h3, h.ap⟩
  obtain ⟨la', lc', ea', ec', k1, k2, k3, _⟩ := hW.gat
  rw [e1] at k1
  rw [e2] at k2
  simp only [Value.slice.injEq] at k1 k2
  obtain ⟨rfl, _, rfl⟩ := k1
  obtain ⟨rfl, _, rfl⟩ := k2
  exact k3

theorem Try.infoIvlT : (Try.prog.info? 79).map (fun i => (i.zero, i.size, i.bytes)) = some (some (.agg #[.int .i64 0, .int .i64 0]), 2, 16) := by kernel_rfl
theorem Try.infoEdgeT : (Try.prog.info? 51).map (fun i => (i.zero, i.size, i.bytes)) = some (some (.agg #[.int .i64 0, .int .i64 0, .slice none 0 0]), 3, 40) := by kernel_rfl
theorem take_map_rev (h : Int) (l : List (Int × Int)) (k : Nat) (hk : k < l.length) : (l.take (k + 1)).map (revIv h) = (l.take k).map (revIv h) ++ [(h - l[k].2, h - l[k].1)] := by
  rw [List.take_succ_eq_append_getElem hk, List.map_append]; rfl

set_option maxRecDepth 100000 in
set_option maxHeartbeats 1000000 in
theorem RRev_any (g : Gr) (la ea : Option Addr) (lc ec : Nat) (w : World) (hG : GAt w la ea g) (hR : Right g) :
    Calls Try.prog 30 #[.agg #[.int .i64 g.hor, .slice la g.lives.length lc, .slice ea g.edges.length ec]] w fun r w' => ∃ la' ea' lc' ec', r = .returned (.tuple #[.agg #[.int .i64 (revA g).1.hor, .slice la' (revA g).1.lives.length lc', .slice ea' (revA g).1.edges.length ec'], .int .i64 (revA g).2]) ∧ GNew w.heap.size w' la' ea' (revA g).1 ∧ Below w.heap.size w w' := by
  obtain ⟨ii, hii, hi0, hi1, hi2⟩ := info_parts Try.infoIvlT
  obtain ⟨ie, hie, he0, he1, he2⟩ := info_parts Try.infoEdgeT
  have hhor := hR.hor
  have hl12 := hR.lvs
  have he30 := hR.eds
  obtain ⟨H, hH⟩ : ∃ H : Nat, g.hor = (H : Int) := ⟨g.hor.toNat, by omega⟩
  have hH1 : 1 ≤ H ∧ H ≤ 100 := by omega
  obtain ⟨wA, hwA⟩ : ∃ x, x = (w.alloc (.cells #[.int .i64 g.hor, .slice la g.lives.length lc, .slice ea g.edges.length ec] 25)).alloc (.cells #[.int .i64 0, .slice none 0 0, .slice none 0 0] 25) := ⟨_, rfl⟩
  obtain ⟨w2, hw2⟩ : ∃ x, x = wA.alloc (.cells #[.int .i64 g.hor, .slice none 0 0, .slice none 0 0] 25) := ⟨_, rfl⟩
  have hsA : wA.heap.size = w.heap.size + 1 + 1 := by rw [hwA]; simp
  have hs2 : w2.heap.size = w.heap.size + 1 + 1 + 1 := by rw [hw2]; simp [hsA]
  have hbA : Below w.heap.size w wA := by rw [hwA]; exact ptg (gal w _) (gal _ _)
  have hb2 : Below w.heap.size w w2 := by rw [hw2]; exact ptg hbA (gal _ _)
  have hG2 : GOwn (w.heap.size + 1 + 1) (w.heap.size + 1 + 1) w2 g.hor (.slice none 0 0) (.slice none 0 0) [] [] := ⟨by rw [hw2, ← hsA]; exact heap_alloc_new wA _, Nat.le_refl _, World.ownsRow_nil _ _ _ _, World.ownsRow_nil _ _ _ _, fun p hp => by simp at hp, fun M p h => by simp at h⟩
  have HGx : Hid (∀ W, Below (w.heap.size + 1 + 1) wA W → W.cell? ⟨w.heap.size, 0, none⟩ = some (.int .i64 (H : Int)) ∧ W.cell? ⟨w.heap.size, 1, none⟩ = some (.slice la g.lives.length lc) ∧ W.cell? ⟨w.heap.size, 2, none⟩ = some (.slice ea g.edges.length ec) ∧ W.heap[w.heap.size + 1]? = some (.cells #[.int .i64 0, .slice none 0 0, .slice none 0 0] 25 (0, 0)) ∧ GAt W la ea g ∧ Below w.heap.size w W) := by
    intro W hb
    have c : ∀ j x, #[Value.int .i64 g.hor, .slice la g.lives.length lc, .slice ea g.edges.length ec][j]? = some x → W.cell? ⟨w.heap.size, j, none⟩ = some x := by
      intro j x hx
      rw [hb.cell (p := ⟨w.heap.size, j, none⟩) (by simp only; omega), hwA, (gal _ _).cell (p := ⟨w.heap.size, j, none⟩) (by simp)]
      exact new_cell rfl hx
    have hW : Below w.heap.size w W := hbA.trans (hb.mono (by omega))
    refine ⟨(c 0 _ rfl).trans (by simp [hH]), c 1 _ rfl, c 2 _ rfl, ?_, hG.below hW, hW⟩
    rw [hb.block _ (by omega), hwA]
    have := heap_alloc_new (w.alloc (.cells #[.int .i64 g.hor, .slice la g.lives.length lc, .slice ea g.edges.length ec] 25)) (.cells #[.int .i64 0, .slice none 0 0, .slice none 0 0] 25)
    simpa using this
  have hbA2 : Below (w.heap.size + 1 + 1) wA w2 := by rw [hw2]; exact (Below.refl _ _).alloc (by omega) _
  have HRt := hideg hR
  rw [hH] at hwA hw2 hG2
  obtain ⟨B, hB⟩ : ∃ B, B = w.heap.size + 1 + 1 := ⟨_, rfl⟩
  have hwB : w.heap.size + 1 < B := by omega
  rw [← hB] at hG2 HGx hbA2
  have HG2 := hideg hG2
  have HbA2 := hideg hbA2
  have HHor := hideg hH
  have HsB : Hid (B = wA.heap.size) := by show _ = _; omega
  rw [hH]
  have hwAs := hwA.symm
  have HW2 := hideg hw2.symm
  obtain ⟨q0, q1, q2, _⟩ := HGx.out wA (Below.refl _ _)
  have HLb : Hid (∀ b off, la = some ⟨b, off, none⟩ → 0 < g.lives.length → b < w.heap.size) := by
    intro b off e hl
    rcases hG.lv with h | ⟨b', off', e', h1, _⟩
    · rw [h] at hl; simp at hl
    · rw [e] at e'; cases e'; exact h1
  have HEd : Hid (∀ i (h : i < g.edges.length), ∃ eb eof lo lcap, ea = some ⟨eb, eof, none⟩ ∧ ∀ W, Below w.heap.size w W → W.cell? ⟨eb, eof + i * 3, none⟩ = some (.int .i64 g.edges[i].1) ∧ W.cell? ⟨eb, eof + i * 3 + 1, none⟩ = some (.int .i64 g.edges[i].2.1) ∧ W.cell? ⟨eb, eof + i * 3 + 2, none⟩ = some (.slice lo g.edges[i].2.2.length lcap) ∧ LgAt W lo g.edges[i].2.2) := by
    intro i h
    rcases hG.ed with h0 | ⟨eb, eof, rfl, heb, hce⟩
    · rw [h0] at h; simp at h
    · obtain ⟨c0, c1, lo, lcap, c2, hL, _, _⟩ := hce i h
      exact ⟨eb, eof, lo, lcap, rfl, fun W hb => ⟨(hb.cell (p := ⟨eb, eof + i * 3, none⟩) heb).trans c0, (hb.cell (p := ⟨eb, eof + i * 3 + 1, none⟩) heb).trans c1, (hb.cell (p := ⟨eb, eof + i * 3 + 2, none⟩) heb).trans c2, hL.below hb⟩⟩
  clear hG hR hbA hb2 hG2 hhor hbA2 hwA hw2 hB hH
  go_enter Try.func30, Try.ntmps30
  go_wp2_with fail
  rw [HW2.out, ← hsA, ← HsB.out]
  clear q0 q1 q2 hwAs HW2 hsA hs2
  go_loopw [6] (fun i wr => ∃ (k : Nat) (vL : Value), k ≤ g.lives.length ∧ i = .int .i64 (k : Int) ∧ GOwn B B wr (H : Int) vL (.slice none 0 0) ((g.lives.take k).map (revIv (H : Int))) [] ∧ Below B wA wr) (fun i _ => g.lives.length - (intOf i).toNat)
  case atStart => exact ⟨0, _, Nat.zero_le _, rfl, HG2.out, HbA2.out⟩
  case round =>
    clear HG2
    obtain ⟨k, vL, hk, rfl, hO, hb⟩ := hrel
    obtain ⟨q0, q1, q2, qR, hGA, hbw⟩ := HGx.out wr hb
    by_cases hlt : k < g.lives.length
    · have hki : (k : Int) < (g.lives.length : Int) := by omega
      have hkw : IntKind.i64.wrap ((k : Int) + 1) = (k : Int) + 1 := wrap_nj _ (by omega) (by omega)
      have hli := HRt.out.life _ (List.getElem_mem hlt)
      rw [HHor.out] at hli
      have HTk := hideg (take_map_rev (H : Int) g.lives k hlt)
      rcases hGA.lv with h0 | ⟨lb, lof, rfl, hlb, hc⟩
      · rw [h0] at hlt; simp at hlt
      obtain ⟨c0, c1⟩ := IvAt.get hlt hc
      generalize g.lives[k] = pp at *
      obtain ⟨pf, pt⟩ := pp
      simp only at hli c0 c1 HTk
      have hw1 : IntKind.i64.wrap ((H : Int) - pt) = (H : Int) - pt := wrap_nj _ (by omega) (by omega)
      have hw2 : IntKind.i64.wrap ((H : Int) - pf) = (H : Int) - pf := wrap_nj _ (by omega) (by omega)
      have p1 : wr.cell? ⟨B, 1, none⟩ = some vL := by rw [Lib.cell_of_heap hO.box]; rfl
      have HO := hideg hO
      have HB := hideg hb
      have hBl := heap_ltg hO.box
      obtain ⟨vo, vc, rfl, _, _⟩ := row_form hO.lv
      have hlvl : ((g.lives.take k).map (revIv (H : Int))).length = k := by simp; omega
      rw [hlvl] at p1
      have hlbB : lb < B := by have := HLb.out lb lof rfl (by omega); omega
      have hne1 : some lb ≠ (Value.slice vo k vc).ownBlock := fun e => by have h1 := (hO.lv.lt lb (by rw [hlvl]; exact e.symm)).1; omega
      have hne0 : some w.heap.size ≠ (Value.slice vo k vc).ownBlock := fun e => by have h1 := (hO.lv.lt w.heap.size (by rw [hlvl]; exact e.symm)).1; omega
      have hwl : w.heap.size < wr.heap.size := by omega
      have hBs : B ≤ wr.heap.size := Nat.le_of_lt hBl
      clear hO hb hGA hc qR hbw
      go_wp2_with fail
      refine wp_region_back (S := fun w' => w'.cell? ⟨B, 1, none⟩ = some (.slice vo k vc) ∧ w'.cell? ⟨w.heap.size, 1, none⟩ = some (.slice (some ⟨lb, lof, none⟩) g.lives.length lc) ∧ w'.cell? ⟨lb, lof + k * 2, none⟩ = some (.int .i64 pf) ∧ w'.cell? ⟨lb, lof + k * 2 + 1, none⟩ = some (.int .i64 pt)) (by kernel_rfl) (by simp) (by kernel_rfl) (by kernel_rfl) ⟨p1, q1, c0, c1⟩ (fun hHeld => ?_)
      simp only [List.pop_toArray, List.dropLast, List.back!_toArray, List.getLast!]
      refine take_lit (i := 0) (v := ?_) rfl (by kernel_rfl) (by kernel_rfl) (by kernel_rfl) (fun _ _ _ h => h) (Or.inl ⟨by rfl, ?hy0⟩) (by assumption) ?_
      case hy0 => (intro w hSw; (try dsimp only at hSw); go_simp; try with_reducible rfl)
      try simp only [Act.put, List.setIfInBounds_toArray, List.set_cons_zero, List.set_cons_succ]
      refine take_lit (i := 1) (v := ?_) rfl (by kernel_rfl) (by kernel_rfl) (by kernel_rfl) (fun _ _ _ h => h) (Or.inl ⟨by rfl, ?hy1⟩) (by assumption) ?_
      case hy1 => (intro w hSw; (try dsimp only at hSw); go_simp; try with_reducible rfl)
      try simp only [Act.put, List.setIfInBounds_toArray, List.set_cons_zero, List.set_cons_succ]
      refine take_lit (i := 2) (v := ?_) rfl (by kernel_rfl) (by kernel_rfl) (by kernel_rfl) (fun _ _ _ h => h) (Or.inl ⟨by rfl, ?hy2⟩) (by assumption) ?_
      case hy2 => (intro w hSw; (try dsimp only at hSw); go_simp; try with_reducible rfl)
      try simp only [Act.put, List.setIfInBounds_toArray, List.set_cons_zero, List.set_cons_succ]
      refine take_lit (i := 3) (v := ?_) rfl (by kernel_rfl) (by kernel_rfl) (by kernel_rfl) (fun _ _ _ h => h) (Or.inl ⟨by rfl, ?hy3⟩) (by assumption) ?_
      case hy3 => (intro w hSw; (try dsimp only at hSw); go_simp; try with_reducible rfl)
      try simp only [Act.put, List.setIfInBounds_toArray, List.set_cons_zero, List.set_cons_succ]
      refine take_lit (i := 4) (v := ?_) rfl (by kernel_rfl) (by kernel_rfl) (by kernel_rfl) (fun _ _ _ h => h) (Or.inl ⟨by rfl, ?hy4⟩) (by assumption) ?_
      case hy4 => (intro w hSw; (try dsimp only at hSw); go_simp; try with_reducible rfl)
      try simp only [Act.put, List.setIfInBounds_toArray, List.set_cons_zero, List.set_cons_succ]
      refine take_lit (i := 5) (v := ?_) rfl (by kernel_rfl) (by kernel_rfl) (by kernel_rfl) (fun _ _ _ h => h) (Or.inl ⟨by rfl, ?hy5⟩) (by assumption) ?_
      case hy5 => (intro w hSw; (try dsimp only at hSw); go_simp; try with_reducible rfl)
      try simp only [Act.put, List.setIfInBounds_toArray, List.set_cons_zero, List.set_cons_succ]
      refine take_lit (i := 6) (v := ?_) rfl (by kernel_rfl) (by kernel_rfl) (by kernel_rfl) (fun _ _ _ h => h) (Or.inl ⟨by rfl, ?hy6⟩) (by assumption) ?_
      case hy6 => (intro w hSw; (try dsimp only at hSw); go_simp; try with_reducible rfl)
      try simp only [Act.put, List.setIfInBounds_toArray, List.set_cons_zero, List.set_cons_succ]
      refine take_lit (i := 7) (v := ?_) rfl (by kernel_rfl) (by kernel_rfl) (by kernel_rfl) (fun _ _ _ h => h) (Or.inl ⟨by rfl, ?hy7⟩) (by assumption) ?_
      case hy7 => (intro w hSw; (try dsimp only at hSw); go_simp; try with_reducible rfl)
      try simp only [Act.put, List.setIfInBounds_toArray, List.set_cons_zero, List.set_cons_succ]
      refine take_lit (i := 8) (v := ?_) rfl (by kernel_rfl) (by kernel_rfl) (by kernel_rfl) (fun _ _ _ h => h) (Or.inl ⟨by rfl, ?hy8⟩) (by assumption) ?_
      case hy8 => (intro w hSw; (try dsimp only at hSw); go_simp; try with_reducible rfl)
      try simp only [Act.put, List.setIfInBounds_toArray, List.set_cons_zero, List.set_cons_succ]
      refine take_lit (i := 9) (v := ?_) rfl (by kernel_rfl) (by kernel_rfl) (by kernel_rfl) (fun _ _ _ h => h) (Or.inl ⟨by rfl, ?hy9⟩) (by assumption) ?_
      case hy9 => (intro w hSw; (try dsimp only at hSw); go_simp; try with_reducible rfl)
      try simp only [Act.put, List.setIfInBounds_toArray, List.set_cons_zero, List.set_cons_succ]
      refine take_lit (i := 10) (v := ?_) rfl (by kernel_rfl) (by kernel_rfl) (by kernel_rfl) (fun _ _ _ h => h) (Or.inl ⟨by rfl, ?hy10⟩) (by assumption) ?_
      case hy10 => (intro w hSw; (try dsimp only at hSw); go_simp; try with_reducible rfl)
      try simp only [Act.put, List.setIfInBounds_toArray, List.set_cons_zero, List.set_cons_succ]
      refine take_lit (i := 11) (v := ?_) rfl (by kernel_rfl) (by kernel_rfl) (by kernel_rfl) (fun _ _ _ h => h) (Or.inl ⟨by rfl, ?hy11⟩) (by assumption) ?_
      case hy11 => (intro w hSw; (try dsimp only at hSw); go_simp; try with_reducible rfl)
      try simp only [Act.put, List.setIfInBounds_toArray, List.set_cons_zero, List.set_cons_succ]
      refine take_lit (i := 12) (v := ?_) rfl (by kernel_rfl) (by kernel_rfl) (by kernel_rfl) (fun _ _ _ h => h) (Or.inl ⟨by rfl, ?hy12⟩) (by assumption) ?_
      case hy12 => (intro w hSw; (try dsimp only at hSw); go_simp; try with_reducible rfl)
      try simp only [Act.put, List.setIfInBounds_toArray, List.set_cons_zero, List.set_cons_succ]
      refine take_lit (i := 13) (v := ?_) rfl (by kernel_rfl) (by kernel_rfl) (by kernel_rfl) (fun _ _ _ h => h) (Or.inl ⟨by rfl, ?hy13⟩) (by assumption) ?_
      case hy13 => (intro w hSw; (try dsimp only at hSw); go_simp; try with_reducible rfl)
      try simp only [Act.put, List.setIfInBounds_toArray, List.set_cons_zero, List.set_cons_succ]
      refine take_lit (i := 14) (v := ?_) rfl (by kernel_rfl) (by kernel_rfl) (by kernel_rfl) (fun _ _ _ h => h) (Or.inl ⟨by rfl, ?hy14⟩) (by assumption) ?_
      case hy14 => (intro w hSw; (try dsimp only at hSw); go_simp; try with_reducible rfl)
      try simp only [Act.put, List.setIfInBounds_toArray, List.set_cons_zero, List.set_cons_succ]
      refine take_lit (i := 15) (v := ?_) rfl (by kernel_rfl) (by kernel_rfl) (by kernel_rfl) (fun _ _ _ h => h) (Or.inl ⟨by rfl, ?hy15⟩) (by assumption) ?_
      case hy15 => (intro w hSw; (try dsimp only at hSw); go_simp; try with_reducible rfl)
      try simp only [Act.put, List.setIfInBounds_toArray, List.set_cons_zero, List.set_cons_succ]
      refine take_lit (i := 16) (v := ?_) rfl (by kernel_rfl) (by kernel_rfl) (by kernel_rfl) (fun _ _ _ h => h) (Or.inl ⟨by rfl, ?hy16⟩) (by assumption) ?_
      case hy16 => (intro w hSw; (try dsimp only at hSw); go_simp; try with_reducible rfl)
      try simp only [Act.put, List.setIfInBounds_toArray, List.set_cons_zero, List.set_cons_succ]
      refine take_lit (i := 17) (v := ?_) rfl (by kernel_rfl) (by kernel_rfl) (by kernel_rfl) (fun _ _ _ h => h) (Or.inl ⟨by rfl, ?hy17⟩) (by assumption) ?_
      case hy17 => (intro w hSw; (try dsimp only at hSw); go_simp; try with_reducible rfl)
      try simp only [Act.put, List.setIfInBounds_toArray, List.set_cons_zero, List.set_cons_succ]
      refine take_lit (i := 18) (v := ?_) rfl (by kernel_rfl) (by kernel_rfl) (by kernel_rfl) (fun _ _ _ h => h) (Or.inl ⟨by rfl, ?hy18⟩) (by assumption) ?_
      case hy18 => (intro w hSw; (try dsimp only at hSw); go_simp; try with_reducible rfl)
      try simp only [Act.put, List.setIfInBounds_toArray, List.set_cons_zero, List.set_cons_succ]
      refine next_lit (i := 19) rfl (by kernel_rfl) (fun K hK => ?_)
      go_simp
      have hwa : Below wr.heap.size wr (wr.drew.alloc (.cells #[.int .i64 ((H : Int) - pt), .int .i64 ((H : Int) - pf)] 79)) := (Below.refl _ _).drew.alloc (Nat.le_refl _) _
      have m1 := (hwa.cell (p := ⟨B, 1, none⟩) hBl).trans p1
      have m2 := (hwa.cell (p := ⟨w.heap.size, 1, none⟩) hwl).trans q1
      have m3 := (hwa.cell (p := ⟨lb, lof + k * 2, none⟩) hlb).trans c0
      have m4 := (hwa.cell (p := ⟨lb, lof + k * 2 + 1, none⟩) hlb).trans c1
      refine hK.out _ _ ⟨m1, m2, m3, m4⟩ (fun hHeld => ?_)
      clear hK K hHeld
      try simp only [Act.put, List.setIfInBounds_toArray, List.set_cons_zero, List.set_cons_succ]
      refine next_lit (i := 20) rfl (by kernel_rfl) (fun K hK => ?_)
      have hlv0 := ownsRow_below HO.out.lv hwa
      rw [hlvl] at hlv0
      refine step_append_lies _ (by rfl) _ _ _ (by rfl) B 79 ii _ 2 16 Try.underlying22 hii hi0 hi1 hi2 rfl (by omega) (.slice vo k vc) k (encs ((g.lives.take k).map (revIv (H : Int)))) (by rfl) hlv0 ⟨wr.heap.size, 0, none⟩ 1 1 [.int .i64 ((H : Int) - pt), .int .i64 ((H : Int) - pf)] (by rfl) (by rfl) (World.news_of_block (cs := #[.int .i64 ((H : Int) - pt), .int .i64 ((H : Int) - pf)]) (t := 79) (fr := (0, 0)) (heap_alloc_new wr.drew _)) (by simp [Value.oneCell']) (by omega) (by unfold maxLen; omega) (by omega) (by simp; omega) (wr.heap.size + 1) (by simp [World.drew]) ?_
      intro gg cap1 w4 hown1 hgrow hat hltg
      have hown2 : w4.ownsRow B 79 2 (.slice (some ⟨gg, 0, none⟩) (k + 1) cap1) (((g.lives.take k).map (revIv (H : Int))).length + 1) (encs ((g.lives.take k).map (revIv (H : Int))) ++ [.int .i64 ((H : Int) - pt), .int .i64 ((H : Int) - pf)]) := by rw [hlvl]; exact hown1
      have hgr2 := hgrow
      rw [← hlvl] at hgr2
      obtain ⟨hbox4, hG4⟩ := HO.out.life hwa hgr2 hown2
      rw [hlvl] at hbox4
      have x1 : w4.cell? ⟨B, 1, none⟩ = some (.slice vo k vc) := by rw [Lib.cell_of_heap hbox4]; rfl
      have x2 : w4.cell? ⟨w.heap.size, 1, none⟩ = some (.slice (some ⟨lb, lof, none⟩) g.lives.length lc) := by rw [hgrow.cell_far _ (Nat.lt_of_lt_of_le hwl hwa.size) hne0]; exact m2
      have x3 : w4.cell? ⟨lb, lof + k * 2, none⟩ = some (.int .i64 pf) := by rw [hgrow.cell_far _ (Nat.lt_of_lt_of_le hlb hwa.size) hne1]; exact m3
      have x4 : w4.cell? ⟨lb, lof + k * 2 + 1, none⟩ = some (.int .i64 pt) := by rw [hgrow.cell_far _ (Nat.lt_of_lt_of_le hlb hwa.size) hne1]; exact m4
      have fz4 : w4.frozen? ⟨B, 1, none⟩ = false := Lib.frozen_of_heap hbox4 1
      have HB4 := hideg (((HB.out.trans (hwa.mono hBs)).grown hgrow (Nat.le_trans hBs hwa.size) (fun j hj => (hlv0.lt j hj).1)).setCell (p := ⟨B, 1, none⟩) (Nat.le_refl _) (.slice (some ⟨gg, 0, none⟩) (k + 1) cap1))
      have HG4 : Hid (GOwn B B (w4.setCell ⟨B, 1, none⟩ (.slice (some ⟨gg, 0, none⟩) (k + 1) cap1)) (H : Int) (.slice (some ⟨gg, 0, none⟩) (k + 1) cap1) (.slice none 0 0) ((g.lives.take (k + 1)).map (revIv (H : Int))) []) := by rw [HTk.out]; exact hG4
      refine hK.out _ _ ⟨x1, x2, x3, x4⟩ (fun hHeld => ?_)
      clear hK K hwa m1 m2 m3 m4 hgrow hgr2 hown1 hown2 hbox4 hG4 hat hltg hlv0
      try simp only [Act.put, List.setIfInBounds_toArray, List.set_cons_zero, List.set_cons_succ]
      refine take_lit (i := 21) (v := ?_) rfl (by kernel_rfl) (by kernel_rfl) (by kernel_rfl) (fun _ _ _ h => h) (Or.inl ⟨by rfl, ?hy21⟩) (by assumption) ?_
      case hy21 => (intro w hSw; (try dsimp only at hSw); go_simp; try with_reducible rfl)
      try simp only [Act.put, List.setIfInBounds_toArray, List.set_cons_zero, List.set_cons_succ]
      refine wpAnyH_done (by kernel_rfl) ?_ _
      refine back_last (fun K hK => ?_)
      clear hHeld
      go_simp
      refine hK.out _ _ ?_
      clear hK K x1 x2 x3 x4 fz4
      go_wp2
      go_roundw
      case rel => exact ⟨k + 1, _, by omega, by go_num, HG4.out, HB4.out⟩
      case measure => simp [intOf]; omega
    · have hkn : ¬ ((k : Int) < (g.lives.length : Int)) := by omega
      have hO' : GOwn B B wr (H : Int) vL (.slice none 0 0) (g.lives.map (revIv (H : Int))) [] := by rw [List.take_of_length_le (by omega)] at hO; exact hO
      have HO := hideg hO'
      have HB := hideg hb
      clear hO hO' hb hGA qR hbw hlt q0 q1 q2
      obtain ⟨wo, hwo⟩ : ∃ x, x = wr := ⟨_, rfl⟩
      subst hwo
      obtain ⟨q0, q1, q2, _⟩ := HGx.out wo HB.out
      go_wp2_with fail
      clear q0 q1 q2
      go_loopw [7] (fun i wr => ∃ (k : Nat) (vE : Value) (L : List (Ed × Value)), k ≤ g.edges.length ∧ i = .int .i64 (k : Int) ∧ GOwn B B wr (H : Int) vL vE (g.lives.map (revIv (H : Int))) L ∧ L.map (·.1) = revEs g k ∧ Below B wA wr) (fun i _ => g.edges.length - (intOf i).toNat)
      case atStart => exact ⟨0, _, [], Nat.zero_le _, rfl, HO.out, rfl, HB.out⟩
      case round =>
        clear HO HB
        obtain ⟨i, vE, L, hi, rfl, hO, hLm, hb⟩ := hrel
        obtain ⟨q0, q1, q2, qR, hGA, hbw⟩ := HGx.out wr hb
        by_cases hlt2 : i < g.edges.length
        · have hii2 : (i : Int) < (g.edges.length : Int) := by omega
          have hiw : IntKind.i64.wrap ((i : Int) + 1) = (i : Int) + 1 := wrap_nj _ (by omega) (by omega)
          obtain ⟨eb, eof, lo, lcap, rfl, hed⟩ := HEd.out i hlt2
          obtain ⟨c0, c1, c2, _⟩ := hed wr hbw
          have hel := (HRt.out.ends _ (List.getElem_mem hlt2)).2.2
          have HFit := hideg (fun l (hl : l ∈ g.edges[i].2.2) => HRt.out.legs _ (List.getElem_mem hlt2) l hl)
          have HSu := hideg (revEs_succ hlt2)
          have HLen := hideg (revEs_len HRt.out i hi)
          have HLg : Hid (∀ W, Below B wA W → LgAt W lo g.edges[i].2.2) := fun W hW => (hed W (HGx.out W hW).2.2.2.2.2).2.2.2
          rw [HHor.out] at HFit HSu
          generalize g.edges[i] = e at *
          obtain ⟨A, C, legs⟩ := e
          simp only at c0 c1 c2 hel HFit HSu HLg
          obtain ⟨wx, hwx⟩ : ∃ x, x = wr.alloc (.cells #[.int .i64 A, .int .i64 C, .slice lo legs.length lcap] 51) := ⟨_, rfl⟩
          have bx : Below wr.heap.size wr wx := by rw [hwx]; exact gal wr _
          obtain ⟨XB, hXB⟩ : ∃ x, x = wr.heap.size := ⟨_, rfl⟩
          have y0 : wx.cell? ⟨XB, 0, none⟩ = some (.int .i64 A) := by rw [hwx, hXB]; exact new_cell rfl rfl
          have y1 : wx.cell? ⟨XB, 1, none⟩ = some (.int .i64 C) := by rw [hwx, hXB]; exact new_cell rfl rfl
          have y2 : wx.cell? ⟨XB, 2, none⟩ = some (.slice lo legs.length lcap) := by rw [hwx, hXB]; exact new_cell rfl rfl
          have hXl : XB < wx.heap.size := by rw [hwx, hXB]; simp
          have hEX : vE.ownBlock ≠ some XB := fun e => by have := (hO.ed.lt XB e).2; omega
          have HOx := hideg (hO.below bx)
          have HBx := hideg (hb.trans (bx.mono (by have := heap_ltg hO.box; omega)))
          have HY := hideg (⟨y0, y1, y2, hXl, hEX⟩ : _ ∧ _ ∧ _ ∧ _ ∧ _)
          have HLm := hideg hLm
          have hXw : B < XB := by have := heap_ltg hO.box; omega
          have HWX := hideg hwx.symm
          clear hO hb hGA hed qR hbw bx hLm y0 y1 y2 hXl hEX hwx
          go_wp2_with fail
          rw [HWX.out, ← hXB]
          clear HWX hXB c0 c1 c2 q0 q1 q2
          obtain ⟨wr0, hwr0⟩ : ∃ x, x = wr := ⟨_, rfl⟩
          subst hwr0
          go_loopw [9] (fun j wr => ∃ (k : Nat) (vE : Value) (L : List (Ed × Value)), k ≤ legs.length ∧ j = .int .i64 (k : Int) ∧ GOwn B B wr (H : Int) vL vE (g.lives.map (revIv (H : Int))) L ∧ L.map (·.1) = revEs g i ++ revE (H : Int) (A, C, legs) k ∧ Below B wA wr ∧ (wr.cell? ⟨XB, 0, none⟩ = some (.int .i64 A) ∧ wr.cell? ⟨XB, 1, none⟩ = some (.int .i64 C) ∧ wr.cell? ⟨XB, 2, none⟩ = some (.slice lo legs.length lcap) ∧ XB < wr.heap.size ∧ vE.ownBlock ≠ some XB)) (fun j _ => legs.length - (intOf j).toNat)
          case atStart => exact ⟨0, vE, L, Nat.zero_le _, rfl, HOx.out, by rw [HLm.out]; simp [revE], HBx.out, HY.out⟩
          case round =>
            clear HOx HBx HY HLm
            obtain ⟨k, vE, L, hk, rfl, hO, hLm, hb, y0, y1, y2, hXl, hEX⟩ := hrel
            by_cases hkl : k < legs.length
            · have hki2 : (k : Int) < (legs.length : Int) := by omega
              have hkw2 : IntKind.i64.wrap ((k : Int) + 1) = (k : Int) + 1 := wrap_nj _ (by omega) (by omega)
              rcases HLg.out wr hb with h0 | ⟨gb, gof, rfl, hgb, hcg⟩
              · rw [h0] at hkl; simp at hkl
              obtain ⟨z0, z1, z2, z3⟩ := LgAt.get hkl hcg
              have hfit := HFit.out legs[k] (List.getElem_mem hkl)
              have hf := (fitB_iff _ _).1 hfit
              have HEnd := hideg (sc_end hfit)
              have HSk := hideg (revE_succ (h := (H : Int)) (e := (A, C, legs)) hkl)
              simp only at HSk
              generalize legs[k] = l at *
              obtain ⟨l1, l2, l3, l4⟩ := l
              simp only at z0 z1 z2 z3 hf
              obtain ⟨wl, hwl⟩ : ∃ x, x = wr.alloc (.cells #[.int .i64 l1, .int .i64 l2, .int .i64 l3, .int .i64 l4] 81) := ⟨_, rfl⟩
              have bl : Below wr.heap.size wr wl := by rw [hwl]; exact gal wr _
              obtain ⟨LB, hLB⟩ : ∃ x, x = wr.heap.size := ⟨_, rfl⟩
              have v0 : wl.cell? ⟨LB, 0, none⟩ = some (.int .i64 l1) := by rw [hwl, hLB]; exact new_cell rfl rfl
              have v1 : wl.cell? ⟨LB, 1, none⟩ = some (.int .i64 l2) := by rw [hwl, hLB]; exact new_cell rfl rfl
              have v2 : wl.cell? ⟨LB, 2, none⟩ = some (.int .i64 l3) := by rw [hwl, hLB]; exact new_cell rfl rfl
              have v3 : wl.cell? ⟨LB, 3, none⟩ = some (.int .i64 l4) := by rw [hwl, hLB]; exact new_cell rfl rfl
              have hLl : LB < wl.heap.size := by rw [hwl, hLB]; simp
              have HOl := hideg (hO.below bl)
              have HBl := hideg (hb.trans (bl.mono (by have := heap_ltg hO.box; omega)))
              have u0 := (bl.cell (p := ⟨XB, 0, none⟩) hXl).trans y0
              have u1 := (bl.cell (p := ⟨XB, 1, none⟩) hXl).trans y1
              have u2 := (bl.cell (p := ⟨XB, 2, none⟩) hXl).trans y2
              have hXl2 : XB < wl.heap.size := Nat.lt_of_lt_of_le hXl bl.size
              have HLm := hideg hLm
              have HWL := hideg hwl.symm
              have hLL : L.length ≤ 186 := by
                have h1 : L.length = (L.map (·.1)).length := by simp
                have h2 := revE_len (H : Int) (A, C, legs) k
                have h3 := HLen.out
                rw [h1, hLm, List.length_append]; omega
              have hw0 : IntKind.i64.wrap ((H : Int) - 1) = (H : Int) - 1 := wrap_nj _ (by omega) (by omega)
              clear hO hb hcg hLm bl hwl y0 y1
              go_wp2_with fail
              rw [HWL.out, ← hLB]
              clear HWL hLB z0 z1 z2 z3
              obtain ⟨wr1, hwr1⟩ : ∃ x, x = wr := ⟨_, rfl⟩
              subst hwr1
              go_loopw [11, 12, 13] (fun a b x wq => ∃ s : Nat, s ≤ H ∧ x = .int .i64 (s : Int) ∧ a = .int .i64 (scF (H : Int) (l1, l2, l3, l4) s) ∧ b = .int .i64 (scT (H : Int) (l1, l2, l3, l4) s) ∧ wq = wl) (fun _ _ x _ => H - (intOf x).toNat)
              case atStart => exact ⟨0, Nat.zero_le _, rfl, by rw [(sc_start _ _).1], by rw [(sc_start _ _).2], rfl⟩
              case round =>
                obtain ⟨s, hs, rfl, rfl, rfl, rfl⟩ := hrel
                by_cases hsH : s < H
                · have hsi : (s : Int) < (H : Int) := by omega
                  have hsw : IntKind.i64.wrap ((s : Int) + 1) = (s : Int) + 1 := wrap_nj _ (by omega) (by omega)
                  have hw1 : IntKind.i64.wrap ((H : Int) - 1 - (s : Int)) = (H : Int) - 1 - (s : Int) := wrap_nj _ (by omega) (by omega)
                  have hw2 : IntKind.i64.wrap ((H : Int) - 1 - (s : Int) - l3) = (H : Int) - 1 - (s : Int) - l3 := wrap_nj _ (by omega) (by omega)
                  have HIn := hideg (fun h1 h2 => sc_in (h := (H : Int)) (l := (l1, l2, l3, l4)) (k := s) h1 h2)
                  have HOut := hideg (fun hc => sc_out (h := (H : Int)) (l := (l1, l2, l3, l4)) (k := s) hc)
                  simp only at HIn HOut
                  generalize scF (H : Int) (l1, l2, l3, l4) s = fs at *
                  generalize scT (H : Int) (l1, l2, l3, l4) s = ts at *
                  by_cases d1 : l1 ≤ (H : Int) - 1 - (s : Int) - l3
                  · by_cases d2 : (H : Int) - 1 - (s : Int) - l3 < l2
                    · obtain ⟨e1, e2⟩ := HIn.out d1 d2
                      have HE1 := hideg e1
                      have HE2 := hideg e2
                      by_cases d3 : fs < 0
                      · rw [if_pos d3] at e1
                        have HE3 := hideg e1
                        clear e1 e2 HIn HOut
                        go_wp2
                        go_roundw
                        case rel => exact ⟨s + 1, by omega, by go_num, by rw [HE3.out], by rw [HE2.out], by first | rfl | trivial⟩
                        case measure => simp [intOf]; omega
                      · rw [if_neg d3] at e1
                        have HE3 := hideg e1
                        clear e1 e2 HIn HOut
                        go_wp2
                        go_roundw
                        case rel => exact ⟨s + 1, by omega, by go_num, by rw [HE3.out], by rw [HE2.out], by first | rfl | trivial⟩
                        case measure => simp [intOf]; omega
                    · obtain ⟨e1, e2⟩ := HOut.out (fun h => d2 h.2)
                      have HE1 := hideg e1
                      have HE2 := hideg e2
                      clear e1 e2 HIn HOut
                      go_wp2
                      go_roundw
                      case rel => exact ⟨s + 1, by omega, by go_num, by rw [HE1.out], by rw [HE2.out], by first | rfl | trivial⟩
                      case measure => simp [intOf]; omega
                  · obtain ⟨e1, e2⟩ := HOut.out (fun h => d1 h.1)
                    have HE1 := hideg e1
                    have HE2 := hideg e2
                    clear e1 e2 HIn HOut
                    go_wp2
                    go_roundw
                    case rel => exact ⟨s + 1, by omega, by go_num, by rw [HE1.out], by rw [HE2.out], by first | rfl | trivial⟩
                    case measure => simp [intOf]; omega
                · obtain rfl : H = s := by omega
                  have hsn : ¬ ((H : Int) < (H : Int)) := by omega
                  by_cases hr : 0 < rvB (H : Int) (l1, l2, l3, l4)
                  · obtain ⟨e1, e2, e3⟩ := HEnd.out.1 hr
                    have hSk := HSk.out
                    rw [if_pos hr] at hSk
                    unfold revLg at hSk
                    simp only at hSk
                    rw [e1, e2]
                    clear e1 e2 HEnd HSk hr
                    generalize rvA (H : Int) (l1, l2, l3, l4) = ra at *
                    generalize rvB (H : Int) (l1, l2, l3, l4) = rb at *
                    have HSk := hideg hSk
                    have p2 : wr.cell? ⟨B, 2, none⟩ = some vE := by rw [Lib.cell_of_heap HOl.out.box]; rfl
                    obtain ⟨vo, vc, rfl, _, _⟩ := row_form HOl.out.ed
                    have e3' : (ra ≥ 0) := e3
                    clear hSk
                    have hBl : B ≤ wr.heap.size := Nat.le_of_lt (heap_ltg HOl.out.box)
                    obtain ⟨wb, hwb⟩ : ∃ x, x = wr.alloc (.cells #[.int .i64 ra, .int .i64 rb, .int .i64 l3, .int .i64 l4] 81) := ⟨_, rfl⟩
                    obtain ⟨wc, hwc⟩ : ∃ x, x = wb.alloc (.cells #[.int .i64 C, .int .i64 A, .slice (some ⟨wr.heap.size, 0, none⟩) 1 1] 51) := ⟨_, rfl⟩
                    have hsb : wb.heap.size = wr.heap.size + 1 := by rw [hwb]; simp
                    have bb : Below wr.heap.size wr wb := by rw [hwb]; exact gal wr _
                    have bc : Below wr.heap.size wr wc := by rw [hwc]; exact bb.alloc (by omega) _
                    have hv : wc.ownsRow B 81 4 (.slice (some ⟨wr.heap.size, 0, none⟩) 1 1) 1 (enc4 [(ra, rb, l3, l4)]) := by
                      refine ⟨rfl, .inr ⟨wr.heap.size, 1, #[.int .i64 ra, .int .i64 rb, .int .i64 l3, .int .i64 l4], rfl, hBl, ?_, Nat.le_refl _, by unfold maxLen; omega, rfl, rfl⟩⟩
                      rw [hwc, heap_alloc_old _ _ (by omega), hwb]
                      exact heap_alloc_new wr _
                    have HV := hideg hv
                    have HBC := hideg bc
                    have hEd := (HOl.out.below bc).ed
                    have HEdc := hideg hEd
                    have hNew := World.news_of_block (w := wc) (B := wb.heap.size) (cs := #[.int .i64 C, .int .i64 A, .slice (some ⟨wr.heap.size, 0, none⟩) 1 1]) (t := 51) (fr := (0, 0)) (by rw [hwc]; exact heap_alloc_new wb _)
                    rw [hsb] at hNew
                    have HNew := hideg hNew
                    have hbsz : B ≤ wc.heap.size := Nat.le_trans hBl bc.size
                    have HWB := hideg hwb.symm
                    have HWC := hideg hwc.symm
                    clear bb bc hv hEd hNew hwb hwc
                    go_wp2_with (at_builtin; rw [HWB.out]; rw [HWC.out]; refine wpList_append_own_at _ rfl _ _ 23 rfl B 51 ie _ 3 40 Try.underlying23 hie he0 he1 he2 rfl (by decide) _ _ _ rfl HEdc.out ⟨wr.heap.size + 1, 0, none⟩ 1 1 [.int .i64 C, .int .i64 A, .slice (some ⟨wr.heap.size, 0, none⟩) 1 1] rfl rfl HNew.out (by intro u hu; simp at hu; rcases hu with rfl | rfl | rfl <;> rfl) (by unfold maxLen; omega) (by omega) hbsz ?_; intro v' w5 hown5 hgrow _ hat; obtain ⟨hbox5, hG5⟩ := HOl.out.edgeL HBC.out hgrow HV.out (fun k e => by simp only [Value.ownBlock, Option.some.injEq] at e; omega) hown5; have x2 : w5.cell? ⟨B, 2, none⟩ = some (.slice vo L.length vc) := by { rw [Lib.cell_of_heap hbox5]; rfl }; have fz5 : w5.frozen? ⟨B, 2, none⟩ = false := Lib.frozen_of_heap hbox5 2; obtain ⟨vo5, cp5, rfl, _, _⟩ := row_form hown5; have HG5 := hideg hG5; have HGr : Hid (wc.grownBy w5 (Value.slice vo L.length vc).ownBlock) := hgrow; have HAt : Hid ((Value.slice vo5 (L.length + 1) cp5).ownBlock = (Value.slice vo L.length vc).ownBlock ∨ (Value.slice vo5 (L.length + 1) cp5).ownBlock = some wc.heap.size) := hat; clear hG5 hgrow hat hbox5 hown5)
                    have hXc : XB < wc.heap.size := Nat.lt_of_lt_of_le hXl2 HBC.out.size
                    have hc5 : ∀ j x, wr.cell? ⟨XB, j, none⟩ = some x → (w5.setCell ⟨B, 2, none⟩ (.slice vo5 (L.length + 1) cp5)).cell? ⟨XB, j, none⟩ = some x := by
                      intro j x hx
                      rw [World.cell?_setCell_far _ _ _ _ (by show B ≠ XB; omega), HGr.out.cell_far (⟨XB, j, none⟩) hXc (fun e => hEX e.symm), HBC.out.cell (p := ⟨XB, j, none⟩) hXl2]
                      exact hx
                    have HY5 : Hid ((w5.setCell ⟨B, 2, none⟩ (.slice vo5 (L.length + 1) cp5)).cell? ⟨XB, 0, none⟩ = some (.int .i64 A) ∧ (w5.setCell ⟨B, 2, none⟩ (.slice vo5 (L.length + 1) cp5)).cell? ⟨XB, 1, none⟩ = some (.int .i64 C) ∧ (w5.setCell ⟨B, 2, none⟩ (.slice vo5 (L.length + 1) cp5)).cell? ⟨XB, 2, none⟩ = some (.slice (some ⟨gb, gof, none⟩) legs.length lcap) ∧ XB < (w5.setCell ⟨B, 2, none⟩ (.slice vo5 (L.length + 1) cp5)).heap.size ∧ (Value.slice vo5 (L.length + 1) cp5).ownBlock ≠ some XB) := by
                      refine ⟨hc5 _ _ u0, hc5 _ _ u1, hc5 _ _ u2, ?_, ?_⟩
                      · have := HGr.out.size
                        simp [World.setCell]; omega
                      · rcases HAt.out with h | h
                        · rw [h]; exact hEX
                        · rw [h]; intro e; simp only [Option.some.injEq] at e; omega
                    have HB5 := hideg (((HBl.out.trans (HBC.out.mono hBl)).grown HGr.out hbsz (fun q hq => (HEdc.out.lt q hq).1)).setCell (p := ⟨B, 2, none⟩) (Nat.le_refl _) (.slice vo5 (L.length + 1) cp5))
                    have HLm5 : Hid ((L ++ [((C, A, [(ra, rb, l3, l4)]), Value.slice (some ⟨wr.heap.size, 0, none⟩) 1 1)]).map (·.1) = revEs g i ++ revE (H : Int) (A, C, legs) (k + 1)) := by
                      show _ = _
                      rw [HSk.out, List.map_append, HLm.out, List.append_assoc]; rfl
                    go_wp2
                    go_roundw
                    case rel => exact ⟨k + 1, _, _, by omega, by go_num, HG5.out, HLm5.out, HB5.out, HY5.out⟩
                    case measure => simp [intOf]; omega
                  · have e1 := HEnd.out.2 (by omega)
                    have hSk := HSk.out
                    rw [if_neg hr, List.append_nil] at hSk
                    rw [e1]
                    have HSk := hideg hSk
                    have HLm' : Hid (L.map (·.1) = revEs g i ++ revE (H : Int) (A, C, legs) (k + 1)) := by show _ = _; rw [HSk.out]; exact HLm.out
                    clear hSk e1 hr HEnd HLm
                    have HY := hideg (⟨u0, u1, u2, hXl2, hEX⟩ : _ ∧ _ ∧ _ ∧ _ ∧ _)
                    generalize scT (H : Int) (l1, l2, l3, l4) H = ts at *
                    go_wp2
                    go_roundw
                    case rel => exact ⟨k + 1, _, L, by omega, by go_num, HOl.out, HLm'.out, HBl.out, HY.out⟩
                    case measure => simp [intOf]; omega
            · have hkn2 : ¬ ((k : Int) < (legs.length : Int)) := by omega
              have HO2 := hideg hO
              have HLm2 : Hid (L.map (·.1) = revEs g (i + 1)) := by show _ = _; rw [hLm, HSu.out, show k = legs.length by omega]
              have HB2 := hideg hb
              clear hO hLm hb y0 y1
              go_wp2
              go_roundw
              case rel => exact ⟨i + 1, _, L, by omega, by go_num, HO2.out, HLm2.out, HB2.out⟩
              case measure => simp [intOf]; omega
        · have hin : ¬ ((i : Int) < (g.edges.length : Int)) := by omega
          obtain rfl : i = g.edges.length := by omega
          have hLl : L.length = (revEs g g.edges.length).length := by rw [← hLm]; simp
          have hR0 : wr.cell? ⟨w.heap.size + 1, 0, none⟩ = some (.int .i64 0) := by rw [Lib.cell_of_heap qR]; rfl
          have hR1 : wr.cell? ⟨w.heap.size + 1, 1, none⟩ = some (.slice none 0 0) := by rw [Lib.cell_of_heap qR]; rfl
          have hR2 : wr.cell? ⟨w.heap.size + 1, 2, none⟩ = some (.slice none 0 0) := by rw [Lib.cell_of_heap qR]; rfl
          have f0 : wr.frozen? ⟨w.heap.size + 1, 0, none⟩ = false := Lib.frozen_of_heap qR 0
          have f1 : wr.frozen? ⟨w.heap.size + 1, 1, none⟩ = false := Lib.frozen_of_heap qR 1
          have f2 : wr.frozen? ⟨w.heap.size + 1, 2, none⟩ = false := Lib.frozen_of_heap qR 2
          have s0 : wr.cell? ⟨B, 0, none⟩ = some (.int .i64 (H : Int)) := by rw [Lib.cell_of_heap hO.box]; rfl
          have s1 : wr.cell? ⟨B, 1, none⟩ = some vL := by rw [Lib.cell_of_heap hO.box]; rfl
          have s2 : wr.cell? ⟨B, 2, none⟩ = some vE := by rw [Lib.cell_of_heap hO.box]; rfl
          obtain ⟨lo, lc2, rfl, _, _⟩ := row_form hO.lv
          obtain ⟨eo, ec2, rfl, _, _⟩ := row_form hO.ed
          have HFin : Hid (∀ a b c, GOwn B B (((wr.setCell ⟨w.heap.size + 1, 0, none⟩ a).setCell ⟨w.heap.size + 1, 1, none⟩ b).setCell ⟨w.heap.size + 1, 2, none⟩ c) (H : Int) (.slice lo (g.lives.map (revIv (H : Int))).length lc2) (.slice eo L.length ec2) (g.lives.map (revIv (H : Int))) L) := fun a b c => ((hO.setLow hwB 0 a).setLow hwB 1 b).setLow hwB 2 c
          have HBF : Hid (∀ a b c, Below w.heap.size w (((wr.setCell ⟨w.heap.size + 1, 0, none⟩ a).setCell ⟨w.heap.size + 1, 1, none⟩ b).setCell ⟨w.heap.size + 1, 2, none⟩ c)) := fun a b c => ((hbw.setCell (p := ⟨w.heap.size + 1, 0, none⟩) (by simp) a).setCell (p := ⟨w.heap.size + 1, 1, none⟩) (by simp) b).setCell (p := ⟨w.heap.size + 1, 2, none⟩) (by simp) c
          have HLm := hideg hLm
          by_cases h30 : 30 < L.length
          · have h30i : (30 : Int) < (L.length : Int) := by omega
            have HA : Hid (revA g = (⟨0, [], []⟩, 2)) := by
              show _ = _
              unfold revA
              rw [if_pos (by show 30 < (revEs g g.edges.length).length; omega)]
            clear hO hb hGA qR hbw hLm hLl
            go_wp2
            rw [HA.out]
            exact bodyPost_ret (v := .tuple #[.agg #[.int .i64 0, .slice none 0 0, .slice none 0 0], .int .i64 2]) (by simp [results, Try.results30, go_sem, hR0, hR1, hR2]) rfl ⟨none, none, ⟨0, 0, rfl⟩, GNew.zero _ _, HBF.out _ _ _⟩
          · have h30i : ¬ ((30 : Int) < (L.length : Int)) := by omega
            have HA : Hid (revA g = (⟨(H : Int), g.lives.map (revIv (H : Int)), L.map (·.1)⟩, 0)) := by
              show _ = _
              unfold revA
              rw [if_neg (by show ¬ 30 < (revEs g g.edges.length).length; omega)]
              unfold revG
              rw [HHor.out, hLm]
            clear hO hb hGA qR hbw hLm hLl
            have HGt : Hid (∀ a b c, GNew w.heap.size (((wr.setCell ⟨w.heap.size + 1, 0, none⟩ a).setCell ⟨w.heap.size + 1, 1, none⟩ b).setCell ⟨w.heap.size + 1, 2, none⟩ c) lo eo ⟨(H : Int), g.lives.map (revIv (H : Int)), L.map (·.1)⟩) := fun a b c => (HFin.out a b c).new (by omega) rfl rfl
            go_wp2
            rw [HA.out]
            exact bodyPost_ret (v := .tuple #[.agg #[.int .i64 (H : Int), .slice lo (g.lives.map (revIv (H : Int))).length lc2, .slice eo L.length ec2], .int .i64 0]) (by simp [results, Try.results30, go_sem, hR0, hR1, hR2]) rfl ⟨lo, eo, ⟨lc2, ec2, by simp⟩, HGt.out _ _ _, HBF.out _ _ _⟩

end Go.Proofs.Ytanbbkoleekmjac
