/-
  What read and Parse of the program answer.
-/
import Derived.Test.YtjjhhmlogddnkaaDoorPLine
import Derived.Test.YtjjhhmlogddnkaaDoorGCheck
namespace Go.Proofs.YtjjhhmlogddnkaaDoor
open Go.RowKit

theorem Ml.mono {B B' : Nat} {w : World} (h : Ml B w) (k : B ≤ B') : Ml B' w := ⟨Nat.lt_of_lt_of_le h.low k, h.cell⟩
/-- a graph's lists, in memory from B on -/
structure GRw (B : Nat) (w : World) (vL vE : Value) (lives : List (Int × Int)) (L : List (Ed × Value)) : Prop where
  lv : w.ownsRow B 49 2 vL lives.length (encs lives)
  ed : w.ownsRow B 52 3 vE L.length (encE L)
  lg : ∀ p ∈ L, w.ownsRow B 54 4 p.2 p.1.2.2.length (enc4 p.1.2.2)
theorem GOwn.rw {B b : Nat} {w : World} {hor : Int} {vL vE : Value} {lives : List (Int × Int)} {L : List (Ed × Value)} (h : GOwn B b w hor vL vE lives L) : GRw B w vL vE lives L := ⟨h.lv, h.ed, h.lg⟩
theorem GRw.below {B : Nat} {w w' : World} {vL vE : Value} {lives : List (Int × Int)} {L : List (Ed × Value)} (h : GRw B w vL vE lives L) (hb : Below w.heap.size w w') : GRw B w' vL vE lives L :=
  ⟨ownsRow_below h.lv hb, ownsRow_below h.ed hb, fun p hp => ownsRow_below (h.lg p hp) hb⟩
theorem GRw.base {B B' : Nat} {w : World} {vL vE : Value} {lives : List (Int × Int)} {L : List (Ed × Value)} (h : GRw B w vL vE lives L) (hB : B' ≤ B) : GRw B' w vL vE lives L :=
  ⟨owns_base2 h.lv hB, owns_base2 h.ed hB, fun p hp => owns_base2 (h.lg p hp) hB⟩
theorem GRw.setLow {B : Nat} {w : World} {vL vE : Value} {lives : List (Int × Int)} {L : List (Ed × Value)} (h : GRw B w vL vE lives L) {R : Nat} (hR : R < B) (j : Nat) (u : Value) : GRw B (w.setCell ⟨R, j, none⟩ u) vL vE lives L := by
  have hne : ∀ {e size n : Nat} {v : Value} {xs : List Value}, w.ownsRow B e size v n xs → v.ownBlock ≠ some R := fun h k => by have := (h.lt R k).1; omega
  exact ⟨row_set h.lv (hne h.lv), row_set h.ed (hne h.ed), fun p hp => row_set (h.lg p hp) (hne (h.lg p hp))⟩
theorem GRw.gat {B : Nat} {w : World} {vL vE : Value} {lives : List (Int × Int)} {L : List (Ed × Value)} (h : GRw B w vL vE lives L) (hor : Int) :
    ∃ la lc ea ec, vL = .slice la lives.length lc ∧ vE = .slice ea L.length ec ∧ GAt w la ea ⟨hor, lives, L.map (·.1)⟩ ∧ lives.length ≤ lc ∧ lc ≤ 9223372036854775807 := by
  obtain ⟨la, lc, rfl, hlv⟩ := ivAt_of_owns h.lv
  obtain ⟨_, _, e1, n1, n2⟩ := row_form h.lv
  simp only [Value.slice.injEq] at e1
  obtain ⟨rfl, _, rfl⟩ := e1
  obtain ⟨ea, ec, rfl, n3, n4⟩ := row_form h.ed
  refine ⟨la, lc, ea, ec, rfl, rfl, ⟨hlv, ?_, by simp only; omega, by simp only [List.length_map]; omega⟩, n1, n2⟩
  rcases h.ed.2 with ⟨_, h0⟩ | ⟨g, cap, cur, e2, hb, hh, _⟩
  · exact .inl (by simp only; rw [List.eq_nil_of_length_eq_zero h0]; rfl)
  · simp only [Value.slice.injEq] at e2
    obtain ⟨rfl, _, rfl⟩ := e2
    refine .inr ⟨g, 0, rfl, (Array.getElem?_eq_some_iff.1 hh).1, fun j hj => ?_⟩
    have hj' : j < L.length := by simpa using hj
    obtain ⟨f0, f1, f2⟩ := encE_get L j hj'
    obtain ⟨a, c, hv, hl, m1, m2⟩ := lgAt_of_owns (h.lg L[j] (List.getElem_mem hj'))
    have ej : (L.map (·.1))[j] = L[j].1 := by simp
    unfold EdOne
    simp only [ej]
    rw [Nat.zero_add, h.ed.cellAt (j * 3) (by omega), h.ed.cellAt (j * 3 + 1) (by omega), h.ed.cellAt (j * 3 + 2) (by omega)]
    exact ⟨f0, f1, a, c, by rw [f2, hv], hl, m1, m2⟩

/-- what a graph's value is -/
def ReadAs (B : Nat) (w' : World) (v : Value) (g : Gr) : Prop := ∃ vL vE L, v = .agg #[.int .i64 g.hor, vL, vE] ∧ GRw B w' vL vE g.lives L ∧ g.edges = L.map (·.1)
theorem ReadAs.gat {B : Nat} {w : World} {v : Value} {g : Gr} (h : ReadAs B w v g) : ∃ la lc ea ec, v = .agg #[.int .i64 g.hor, .slice la g.lives.length lc, .slice ea g.edges.length ec] ∧ GAt w la ea g ∧ g.lives.length ≤ lc ∧ lc ≤ 9223372036854775807 := by
  obtain ⟨vL, vE, L, rfl, h, e⟩ := h
  obtain ⟨la, lc, ea, ec, rfl, rfl, hg, n1, n2⟩ := h.gat g.hor
  have hel : L.length = g.edges.length := by rw [e]; simp
  rw [← e] at hg
  exact ⟨la, lc, ea, ec, by rw [hel], hg, n1, n2⟩
theorem ReadAs.below {B : Nat} {w w' : World} {v : Value} {g : Gr} (h : ReadAs B w v g) (hb : Below w.heap.size w w') : ReadAs B w' v g := by
  obtain ⟨vL, vE, L, rfl, h, e⟩ := h
  exact ⟨vL, vE, L, rfl, h.below hb, e⟩
theorem ReadAs.base {B B' : Nat} {w : World} {v : Value} {g : Gr} (h : ReadAs B w v g) (hB : B' ≤ B) : ReadAs B' w v g := by
  obtain ⟨vL, vE, L, rfl, h, e⟩ := h
  exact ⟨vL, vE, L, rfl, h.base hB, e⟩
theorem ReadAs.setLow {B : Nat} {w : World} {v : Value} {g : Gr} (h : ReadAs B w v g) {R : Nat} (hR : R < B) (j : Nat) (u : Value) : ReadAs B (w.setCell ⟨R, j, none⟩ u) v g := by
  obtain ⟨vL, vE, L, rfl, h, e⟩ := h
  exact ⟨vL, vE, L, rfl, h.setLow hR j u, e⟩
theorem ReadAs.none (B : Nat) (w : World) : ReadAs B w (.agg #[.int .i64 0, .slice none 0 0, .slice none 0 0]) g0 :=
  ⟨_, _, [], rfl, ⟨World.ownsRow_nil _ _ _ _, World.ownsRow_nil _ _ _ _, fun p hp => by simp at hp⟩, rfl⟩

/-- Cut at the line's end -/
theorem Cut_any (s : ByteArray) (w : World) (hs : s.size ≤ 8192) {B : Nat} (hM : Ml B w) (a b : List UInt8) (c : Bool) (h : Lib.cut s.data.toList [10] = (a, b, c)) : Calls Tryd.prog 40 #[.string s, .string ⟨#[10]⟩] w fun e w' => e = .returned (.tuple #[.string ⟨a.toArray⟩, .string ⟨b.toArray⟩, .bool c]) ∧ Below w.heap.size w w' := by
  obtain ⟨m, hm⟩ := hM.cell
  refine (Tryd.strings_Cut s ⟨#[10]⟩ m w (by omega) hm).mono ?_
  rintro e w' ⟨rfl, n, rfl⟩
  have e1 : (⟨#[10]⟩ : ByteArray).data.toList = [10] := rfl
  rw [e1, h]
  exact ⟨rfl, below_drewN (Below.refl _ _) n⟩

/-- how long a text is -/
def strOf : Value → Nat
  | .string s => s.size
  | _ => 0

theorem rdP_one {g : Gr} {n : Nat} {first : Bool} {l : List UInt8} (h : ¬ (first = false ∧ l = [])) : rdP g n first [l] = .inr n := by rw [rdP, if_neg h]
theorem rdP_end (g : Gr) (n : Nat) : rdP g n false [[]] = .inl g := by rw [rdP, if_pos ⟨rfl, rfl⟩]
theorem rdP_bad {g : Gr} {n : Nat} {first : Bool} {l m : List UInt8} {r : List (List UInt8)} (h : lineOf g l first = none) : rdP g n first (l :: m :: r) = .inr n := by rw [rdP, h]
theorem rdP_go {g g' : Gr} {n : Nat} {first : Bool} {l m : List UInt8} {r : List (List UInt8)} (h : lineOf g l first = some g') : rdP g n first (l :: m :: r) = rdP g' (n + 1) false (m :: r) := by rw [rdP, h]

theorem read_fin {w wr : World} {g : Gr} (hG : GO (w.heap.size + 1) (w.heap.size + 1) wr g) (hb : Below (w.heap.size + 1) (w.alloc (.cells #[.int .i64 0, .slice none 0 0, .slice none 0 0] 25)) wr) :
    ∃ la lc ea ec, (wr.cell? ⟨w.heap.size + 1, 0, none⟩ = some (.int .i64 g.hor) ∧ wr.cell? ⟨w.heap.size + 1, 1, none⟩ = some (.slice la g.lives.length lc) ∧ wr.cell? ⟨w.heap.size + 1, 2, none⟩ = some (.slice ea g.edges.length ec)) ∧
      (wr.cell? ⟨w.heap.size, 0, none⟩ = some (.int .i64 0) ∧ wr.cell? ⟨w.heap.size, 1, none⟩ = some (.slice none 0 0) ∧ wr.cell? ⟨w.heap.size, 2, none⟩ = some (.slice none 0 0)) ∧ (∀ j, wr.frozen? ⟨w.heap.size, j, none⟩ = false) ∧
      ∀ a b c, ReadAs (w.heap.size + 1) (((wr.setCell ⟨w.heap.size, 0, none⟩ a).setCell ⟨w.heap.size, 1, none⟩ b).setCell ⟨w.heap.size, 2, none⟩ c) (.agg #[.int .i64 g.hor, .slice la g.lives.length lc, .slice ea g.edges.length ec]) g ∧ Below w.heap.size w (((wr.setCell ⟨w.heap.size, 0, none⟩ a).setCell ⟨w.heap.size, 1, none⟩ b).setCell ⟨w.heap.size, 2, none⟩ c) := by
  obtain ⟨vL, vE, L, hO, hL⟩ := hG
  obtain ⟨la, lc, ea, ec, rfl, rfl, _, _, _⟩ := hO.gat
  have hel : L.length = g.edges.length := by rw [hL]; simp
  rw [hel] at hO
  refine ⟨la, lc, ea, ec, ⟨by rw [Lib.cell_of_heap hO.box]; rfl, by rw [Lib.cell_of_heap hO.box]; rfl, by rw [Lib.cell_of_heap hO.box]; rfl⟩, ⟨?_, ?_, ?_⟩, fun j => ?_, fun a b c => ⟨?_, ?_⟩⟩
  · rw [hb.cell (p := ⟨w.heap.size, 0, none⟩) (by simp)]; simp
  · rw [hb.cell (p := ⟨w.heap.size, 1, none⟩) (by simp)]; simp
  · rw [hb.cell (p := ⟨w.heap.size, 2, none⟩) (by simp)]; simp
  · rw [hb.frozen (p := ⟨w.heap.size, j, none⟩) (by simp)]; simp
  · exact ⟨_, _, L, rfl, ((hO.rw.setLow (R := w.heap.size) (by omega) 0 a).setLow (R := w.heap.size) (by omega) 1 b).setLow (R := w.heap.size) (by omega) 2 c, hL⟩
  · have h0 : Below w.heap.size w wr := ptg (gal w _) (by simpa using hb)
    exact ((h0.setCell (p := ⟨w.heap.size, 0, none⟩) (Nat.le_refl _) a).setCell (p := ⟨w.heap.size, 1, none⟩) (Nat.le_refl _) b).setCell (p := ⟨w.heap.size, 2, none⟩) (Nat.le_refl _) c
theorem jn_size {r : ByteArray} {a m : List UInt8} {t : List (List UInt8)} (h : sp 10 r.data.toList = a :: m :: t) : a.length + 1 + (jn 10 (m :: t)).length = r.size := by
  have h1 := jn_sp 10 r.data.toList
  rw [h, jn_cons _ _ (by simp)] at h1
  have h2 := congrArg List.length h1
  have h3 : r.data.toList.length = r.size := by rw [Array.length_toList]; rfl
  rw [h3, List.length_append, List.length_cons] at h2
  omega
theorem fbk (k : Nat) : ((k : Int) + 1 == 1) = (k == 0) := by
  by_cases e : k = 0
  · subst e; rfl
  · have h1 : ((k : Int) + 1 == 1) = false := by rw [beq_eq_false_iff_ne]; omega
    have h2 : (k == 0) = false := by rw [beq_eq_false_iff_ne]; exact e
    rw [h1, h2]
theorem bsz (l : List UInt8) : (⟨l.toArray⟩ : ByteArray).size = l.length := by show l.toArray.size = _; simp

set_option linter.unusedSimpArgs false in
set_option maxRecDepth 100000 in
set_option maxHeartbeats 8000000 in
theorem read_any (s : ByteArray) (w : World) (hM : Ml w.heap.size w) (hs : s.size ≤ 8192) :
    Calls Tryd.prog 28 #[.string s] w fun e w' => ∃ (g : Gr) (n : Nat) (v : Value), e = .returned (.tuple #[v, .int .i64 n]) ∧ ReadAs w.heap.size w' v g ∧ Below w.heap.size w w' ∧ (rdP g0 1 true (sp 10 s.data.toList) = .inr n ∧ 1 ≤ n ∧ n ≤ 8193 ∨ rdP g0 1 true (sp 10 s.data.toList) = .inl g ∧ n = 0) := by
  have HM := hideg hM
  clear hM
  go_enter Tryd.func28, Tryd.ntmps28
  go_wp2
  go_loopw [0, 5] (fun sv i wr => ∃ (k : Nat) (r : ByteArray) (g : Gr), sv = .string r ∧ i = .int .i64 ((k : Int) + 1) ∧ k + r.size ≤ 8192 ∧ GO (w.heap.size + 1) (w.heap.size + 1) wr g ∧ Sm k g ∧ rdP g0 1 true (sp 10 s.data.toList) = rdP g (k + 1) (k == 0) (sp 10 r.data.toList) ∧ Below (w.heap.size + 1) (w.alloc (.cells #[.int .i64 0, .slice none 0 0, .slice none 0 0] 25)) wr) (fun sv _ _ => strOf sv)
  case atStart =>
    refine ⟨0, s, g0, rfl, rfl, by omega, ⟨_, _, [], GOwn.first _ _ _ (by have := heap_alloc_new (w.alloc (.cells #[.int .i64 0, .slice none 0 0, .slice none 0 0] 25)) (.cells #[.int .i64 0, .slice none 0 0, .slice none 0 0] 25); rwa [World.size_alloc] at this) (Nat.le_refl _), rfl⟩, ⟨by simp [g0], by simp [g0], by simp [g0]⟩, rfl, (Below.refl _ _).alloc (by simp) _⟩
  case round =>
    obtain ⟨k, r, g, rfl, rfl, hk, hG, hS, hR, hb⟩ := hrel
    have HG := hideg hG
    have HR := hideg hR
    have HBw := hideg hb
    have HS := hideg (hS.mono (N' := 10000) (by omega))
    have HSk := hideg hS
    have hsz := hb.size
    rw [World.size_alloc] at hsz
    have hMr : Ml (w.heap.size + 1) wr := by
      have := HM.out.below (gal w (.cells #[.int .i64 0, .slice none 0 0, .slice none 0 0] 25))
      exact (Ml.mono this (by omega)).below hb
    have HMr := hideg hMr
    clear hG hR hb hS hMr
    have HFin : Hid (∀ wr g, GO (w.heap.size + 1) (w.heap.size + 1) wr g → Below (w.heap.size + 1) (w.alloc (.cells #[.int .i64 0, .slice none 0 0, .slice none 0 0] 25)) wr → _) := fun wr g h1 h2 => read_fin (w := w) (wr := wr) (g := g) h1 h2
    by_cases hend : k ≠ 0 ∧ r.size = 0
    · have hE : r.toList = [] := by rw [bdl]; exact List.eq_nil_of_length_eq_zero (by rw [Array.length_toList]; exact hend.2)
      have HRR : Hid (rdP g0 1 true (sp 10 s.data.toList) = .inl g) := by
        show _ = _
        rw [HR.out, show (k == 0) = false by simpa using hend.1, ← bdl, hE]
        exact rdP_end _ _
      have hk1 : ¬ (k : Int) + 1 = 1 := by omega
      obtain ⟨la, lc, ea, ec, ⟨p0, p1, p2⟩, ⟨r0, r1, r2⟩, f0, hF⟩ := HFin.out wr g HG.out HBw.out
      have HF := hideg hF
      clear hF
      go_wp2
      refine bodyPost_ret (v := .tuple #[.agg #[.int .i64 g.hor, .slice la g.lives.length lc, .slice ea g.edges.length ec], .int .i64 0]) (by simp [results, Tryd.results28, go_sem, r0, r1, r2]) rfl ⟨g, 0, _, rfl, (HF.out _ _ _).1.base (by omega), (HF.out _ _ _).2, .inr ⟨HRR.out, rfl⟩⟩
    · have hgo : k = 0 ∨ (k ≠ 0 ∧ r.toList.isEmpty = false) := by
        by_cases e : k = 0
        · exact .inl e
        · refine .inr ⟨e, ?_⟩
          have : r.size ≠ 0 := fun q => hend ⟨e, q⟩
          rw [bdl]
          cases hl : r.data.toList with
          | nil =>
            have h3 : r.data.toList.length = r.size := by rw [Array.length_toList]; rfl
            rw [hl] at h3; simp at h3; omega
          | cons _ _ => rfl
      have HNE : Hid (∀ l, sp 10 r.data.toList = [l] → ¬ ((k == 0) = false ∧ l = [])) := by
        rintro l h ⟨h1, rfl⟩
        have h2 := jn_sp 10 r.data.toList
        rw [h] at h2
        have h3 : r.data.toList.length = r.size := by rw [Array.length_toList]; rfl
        rw [← h2] at h3
        simp [jn] at h3
        exact hend ⟨by simpa using h1, by omega⟩
      rcases cut_sp 10 r.data.toList with ⟨a, m, t, hsp, hcut, hsp2⟩ | ⟨hsp, hcut⟩
      · have HC := hideg (Cut_any r wr (by omega) HMr.out _ _ _ hcut)
        have hjs := jn_size hsp
        have HL : Hid (∀ fb, fb = (k == 0) → ∀ w', Below wr.heap.size wr w' → Calls Tryd.prog 41 #[.pointer (some ⟨w.heap.size + 1, 0, none⟩), .string ⟨a.toArray⟩, .bool fb] w' fun e w2 => e = .returned (.bool (lineOf g a (k == 0)).isSome) ∧ GO (w.heap.size + 1) (w.heap.size + 1) w2 ((lineOf g a (k == 0)).getD g) ∧ Below (w.heap.size + 1) (w.alloc (.cells #[.int .i64 0, .slice none 0 0, .slice none 0 0] 25)) w2) := by
          rintro fb rfl w' hb'
          refine (readLine_any _ _ g ⟨a.toArray⟩ (k == 0) w' (HG.out.below hb') (HMr.out.below (hb'.mono hsz)) (by rw [bsz]; omega) HS.out (Nat.le_trans hsz hb'.size)).mono ?_
          rintro e w2 ⟨h1, h2, h3⟩
          exact ⟨h1, h2, HBw.out.trans ((hb'.mono hsz).trans h3)⟩
        have HSP := hideg hsp
        have HSP2 := hideg hsp2
        clear hsp hcut hsp2 HNE
        cases hl : lineOf g a (k == 0) with
        | none =>
          have HRR : Hid (rdP g0 1 true (sp 10 s.data.toList) = .inr (k + 1)) := by
            show _ = _
            rw [HR.out, HSP.out]
            exact rdP_bad hl
          simp only [hl, Option.isSome_none, Option.getD_none] at HL
          clear HR hl hjs
          rcases hgo with rfl | ⟨hk0, hre⟩
          all_goals
            (try have hk1 : ¬ (k : Int) + 1 = 1 := by omega)
            go_wp2_with fail
            refine HC.out.mono ?_
            rintro e w1 ⟨rfl, hb1⟩
            go_wp2_with fail
            refine (HL.out _ (by first | rfl | exact fbk k) _ hb1).mono ?_
            rintro e w2 ⟨rfl, hg2, hb2⟩
            obtain ⟨la, lc, ea, ec, ⟨p0, p1, p2⟩, ⟨r0, r1, r2⟩, f0, hF⟩ := HFin.out w2 g hg2 hb2
            have HF := hideg hF
            clear hF hb1 hb2 hg2
            go_wp2
            refine bodyPost_ret (v := .tuple #[.agg #[.int .i64 g.hor, .slice la g.lives.length lc, .slice ea g.edges.length ec], .int .i64 _]) (by simp [results, Tryd.results28, go_sem, r0, r1, r2]) rfl ⟨g, _, _, rfl, (HF.out _ _ _).1.base (by omega), (HF.out _ _ _).2, .inl ⟨HRR.out, by omega, by omega⟩⟩
        | some g' =>
          have HRR : Hid (rdP g0 1 true (sp 10 s.data.toList) = rdP g' (k + 1 + 1) (k + 1 == 0) (sp 10 (⟨(jn 10 (m :: t)).toArray⟩ : ByteArray).data.toList)) := by
            show _ = _
            rw [HR.out, HSP.out, rdP_go hl]
            show _ = rdP g' (k + 1 + 1) false (sp 10 (jn 10 (m :: t)))
            rw [HSP2.out]
          have HS' := hideg (HSk.out.line hl)
          simp only [hl, Option.isSome_some, Option.getD_some] at HL
          clear HR hl
          rcases hgo with rfl | ⟨hk0, hre⟩
          all_goals
            (try have hk1 : ¬ (k : Int) + 1 = 1 := by omega)
            go_wp2_with fail
            refine HC.out.mono ?_
            rintro e w1 ⟨rfl, hb1⟩
            go_wp2_with fail
            refine (HL.out _ (by first | rfl | exact fbk k) _ hb1).mono ?_
            rintro e w2 ⟨rfl, hg2, hb2⟩
            clear hb1
            go_wp2
            go_roundw
            case rel => exact ⟨_, _, g', rfl, by go_num, by rw [bsz]; omega, hg2, HS'.out, HRR.out, hb2⟩
            case measure => simp only [strOf, bsz]; omega
      · have HC := hideg (Cut_any r wr (by omega) HMr.out _ _ _ hcut)
        have HRR : Hid (rdP g0 1 true (sp 10 s.data.toList) = .inr (k + 1)) := by
          show _ = _
          rw [HR.out, hsp]
          exact rdP_one (HNE.out _ hsp)
        clear hsp hcut HR HNE
        have HFn := hideg (fun w' (h : Below wr.heap.size wr w') => HFin.out w' g (HG.out.below h) (HBw.out.trans (h.mono hsz)))
        rcases hgo with rfl | ⟨hk0, hre⟩
        all_goals
          (try have hk1 : ¬ (k : Int) + 1 = 1 := by omega)
          go_wp2_with fail
          refine HC.out.mono ?_
          rintro e w' ⟨rfl, hb'⟩
          obtain ⟨la, lc, ea, ec, ⟨p0, p1, p2⟩, ⟨r0, r1, r2⟩, f0, hF⟩ := HFn.out w' hb'
          have HF := hideg hF
          clear hF hb'
          go_wp2
          refine bodyPost_ret (v := .tuple #[.agg #[.int .i64 g.hor, .slice la g.lives.length lc, .slice ea g.edges.length ec], .int .i64 _]) (by simp [results, Tryd.results28, go_sem, r0, r1, r2]) rfl ⟨g, _, _, rfl, (HF.out _ _ _).1.base (by omega), (HF.out _ _ _).2, .inl ⟨HRR.out, by omega, by omega⟩⟩

set_option linter.unusedSimpArgs false in
set_option maxRecDepth 100000 in
set_option maxHeartbeats 8000000 in
theorem Parse_any (s : ByteArray) (w : World) (hM : Ml w.heap.size w) :
    Calls Tryd.prog 14 #[.string s] w fun e w' => ∃ v, e = .returned (.tuple #[v, .int .i64 (parse s.data.toList).2.1, .int .i64 (parse s.data.toList).2.2]) ∧ ReadAs w.heap.size w' v (parse s.data.toList).1 ∧ Below w.heap.size w w' := by
  have hsz : s.data.toList.length = s.size := by rw [Array.length_toList]; rfl
  by_cases h8 : 8192 < s.size
  · have HP : Hid (parse s.data.toList = (g0, 0, 2)) := by show _ = _; unfold parse; rw [if_pos (by omega)]
    rw [HP.out]
    have h8' : (8192 : Int) < (s.size : Int) := by omega
    clear hsz
    have HB := hideg (gal w)
    go_enter Tryd.func14, Tryd.ntmps14
    go_wp2
    exact bodyPost_ret (v := .tuple #[.agg #[.int .i64 0, .slice none 0 0, .slice none 0 0], .int .i64 0, .int .i64 2]) (by simp [results, Tryd.results14, go_sem]) rfl ⟨_, rfl, ReadAs.none _ _, HB.out _⟩
  · have h8' : (s.size : Int) ≤ 8192 := by omega
    have HPn : Hid (∀ n, rdP g0 1 true (sp 10 s.data.toList) = .inr n → parse s.data.toList = (g0, (n : Int), 3)) := fun n h => by unfold parse; rw [if_neg (by omega), h]
    have HPg : Hid (∀ g, rdP g0 1 true (sp 10 s.data.toList) = .inl g → parse s.data.toList = if gChk g = 0 then (g, 0, 0) else (g0, 0, gChk g)) := fun g h => by unfold parse; rw [if_neg (by omega), h]
    have HRd : Hid (∀ o, Calls Tryd.prog 28 #[.string s] (w.alloc o) fun e w' => _) := fun o => read_any s (w.alloc o) ((hM.below (gal w o)).mono (by simp)) (by omega)
    clear hM hsz
    go_enter Tryd.func14, Tryd.ntmps14
    go_wp2_with fail
    refine (HRd.out _).mono ?_
    rintro e w1 ⟨g, n, v, rfl, hv, hb1, hrd⟩
    have HRD := hideg hrd
    rw [World.size_alloc] at hv
    have HV := hideg hv
    obtain ⟨la, lc, ea, ec, rfl, hga, _, _⟩ := hv.gat
    have HGA := hideg hga
    clear hga
    have r0 : w1.cell? ⟨w.heap.size, 0, none⟩ = some (.int .i64 0) := by rw [hb1.cell (p := ⟨w.heap.size, 0, none⟩) (by simp)]; simp
    have r1 : w1.cell? ⟨w.heap.size, 1, none⟩ = some (.slice none 0 0) := by rw [hb1.cell (p := ⟨w.heap.size, 1, none⟩) (by simp)]; simp
    have r2 : w1.cell? ⟨w.heap.size, 2, none⟩ = some (.slice none 0 0) := by rw [hb1.cell (p := ⟨w.heap.size, 2, none⟩) (by simp)]; simp
    have f0 : ∀ j, w1.frozen? ⟨w.heap.size, j, none⟩ = false := fun j => by rw [hb1.frozen (p := ⟨w.heap.size, j, none⟩) (by simp)]; simp
    have HB1 := hideg (ptg (gal w _) hb1)
    have hz1 : w.heap.size < w1.heap.size := by have := hb1.size; simp at this; omega
    clear hv hb1 HRd hrd
    have HBF : Hid (∀ w2, Below w1.heap.size w1 w2 → ∀ a b c, Below w.heap.size w (((w2.setCell ⟨w.heap.size, 0, none⟩ a).setCell ⟨w.heap.size, 1, none⟩ b).setCell ⟨w.heap.size, 2, none⟩ c)) := fun w2 h a b c =>
      (((ptg HB1.out h).setCell (p := ⟨w.heap.size, 0, none⟩) (Nat.le_refl _) a).setCell (p := ⟨w.heap.size, 1, none⟩) (Nat.le_refl _) b).setCell (p := ⟨w.heap.size, 2, none⟩) (Nat.le_refl _) c
    rcases HRD.out with ⟨h, hn1, hn2⟩ | ⟨h, rfl⟩
    · have HP := hideg (HPn.out n h)
      have hn1' : (0 : Int) < (n : Int) := by omega
      clear h
      go_wp2
      rw [HP.out]
      exact bodyPost_ret (v := .tuple #[.agg #[.int .i64 0, .slice none 0 0, .slice none 0 0], .int .i64 n, .int .i64 3]) (by simp [results, Tryd.results14, go_sem, r0, r1, r2, hz1]) rfl ⟨_, rfl, ReadAs.none _ _, (HBF.out w1 (Below.refl _ _) _ _ _).alloc (by simp; omega) _⟩
    · have HP := hideg (HPg.out g h)
      have hC := fun o => gCheck_any g la ea lc ec (w1.alloc o) (HGA.out.below (gal w1 o))
      clear h
      go_wp2_with fail
      refine (hC _).mono ?_
      rintro e w2 ⟨rfl, hb2⟩
      have HB2 := hideg (ptg (gal w1 _) hb2)
      have b0 : w2.cell? ⟨w1.heap.size, 0, none⟩ = some (.int .i64 g.hor) := by rw [hb2.cell (p := ⟨w1.heap.size, 0, none⟩) (by simp)]; simp
      have b1 : w2.cell? ⟨w1.heap.size, 1, none⟩ = some (.slice la g.lives.length lc) := by rw [hb2.cell (p := ⟨w1.heap.size, 1, none⟩) (by simp)]; simp
      have b2 : w2.cell? ⟨w1.heap.size, 2, none⟩ = some (.slice ea g.edges.length ec) := by rw [hb2.cell (p := ⟨w1.heap.size, 2, none⟩) (by simp)]; simp
      have s0 := (HB2.out.cell (p := ⟨w.heap.size, 0, none⟩) hz1).trans r0
      have s1 := (HB2.out.cell (p := ⟨w.heap.size, 1, none⟩) hz1).trans r1
      have s2 := (HB2.out.cell (p := ⟨w.heap.size, 2, none⟩) hz1).trans r2
      have g0' : ∀ j, w2.frozen? ⟨w.heap.size, j, none⟩ = false := fun j => (HB2.out.frozen (p := ⟨w.heap.size, j, none⟩) hz1).trans (f0 j)
      clear hb2 hC r0 r1 r2 f0
      by_cases h0 : gChk g = 0
      · rw [if_pos h0] at HP
        have HR : Hid (∀ a b c, ReadAs (w.heap.size + 1) (((w2.setCell ⟨w.heap.size, 0, none⟩ a).setCell ⟨w.heap.size, 1, none⟩ b).setCell ⟨w.heap.size, 2, none⟩ c) (.agg #[.int .i64 g.hor, .slice la g.lives.length lc, .slice ea g.edges.length ec]) g) := fun a b c => (((HV.out.below HB2.out).setLow (R := w.heap.size) (by omega) 0 a).setLow (R := w.heap.size) (by omega) 1 b).setLow (R := w.heap.size) (by omega) 2 c
        go_wp2
        rw [HP.out]
        exact bodyPost_ret (v := .tuple #[.agg #[.int .i64 g.hor, .slice la g.lives.length lc, .slice ea g.edges.length ec], .int .i64 0, .int .i64 0]) (by simp [results, Tryd.results14, go_sem, s0, s1, s2]) rfl ⟨_, rfl, (HR.out _ _ _).base (by omega), HBF.out w2 HB2.out _ _ _⟩
      · rw [if_neg h0] at HP
        go_wp2
        rw [HP.out]
        exact bodyPost_ret (v := .tuple #[.agg #[.int .i64 0, .slice none 0 0, .slice none 0 0], .int .i64 0, .int .i64 (gChk g)]) (by simp [results, Tryd.results14, go_sem, s0, s1, s2]) rfl ⟨_, rfl, ReadAs.none _ _, HBF.out w2 HB2.out _ _ _⟩

end Go.Proofs.YtjjhhmlogddnkaaDoor
