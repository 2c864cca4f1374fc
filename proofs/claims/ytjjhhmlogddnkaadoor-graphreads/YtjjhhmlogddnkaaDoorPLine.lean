/-
  What readLine of the program makes of a graph.
-/
import Derived.Test.YtjjhhmlogddnkaaDoorPNum
import Derived.Test.YtjjhhmlogddnkaaDoorPop
import Derived.Test.YtjjhhmlogddnkaaDoorShelf
namespace Go.Proofs.YtjjhhmlogddnkaaDoor
open Go.RowKit

/-- the cell that Cut and Split ask -/
structure Ml (B : Nat) (w : World) : Prop where
  low : 0 < B
  cell : ∃ m, w.cell? ⟨0, 0, none⟩ = some (.int .i64 m)
theorem Ml.below {B : Nat} {w w' : World} (h : Ml B w) (hb : Below B w w') : Ml B w' := by
  obtain ⟨m, hm⟩ := h.cell
  exact ⟨h.low, m, by rw [hb.cell (p := ⟨0, 0, none⟩) h.low]; exact hm⟩

/-- no list is longer than N -/
structure Sm (N : Nat) (g : Gr) : Prop where
  lv : g.lives.length ≤ N
  ed : g.edges.length ≤ N
  lg : ∀ e ∈ g.edges, e.2.2.length ≤ N
theorem Sm.mono {N N' : Nat} {g : Gr} (h : Sm N g) (k : N ≤ N') : Sm N' g := ⟨Nat.le_trans h.lv k, Nat.le_trans h.ed k, fun e he => Nat.le_trans (h.lg e he) k⟩
theorem Sm.put {N : Nat} {g g' : Gr} {k : List UInt8} {ns : List Int} (h : Sm N g) (hp : put g k ns = some g') : Sm (N + 1) g' := by
  have h1 := h.lv
  have h2 := h.ed
  unfold Go.Proofs.YtjjhhmlogddnkaaDoor.put at hp
  split at hp
  · split at hp
    · simp only [Option.some.injEq] at hp; subst hp; exact ⟨by simp only; omega, by simp only; omega, fun e he => Nat.le_succ_of_le (h.lg e he)⟩
    · simp at hp
  · split at hp
    · simp only [Option.some.injEq] at hp; subst hp
      exact ⟨by simp; omega, by simp only; omega, fun e he => Nat.le_succ_of_le (h.lg e he)⟩
    · split at hp
      · simp only [Option.some.injEq] at hp; subst hp
        refine ⟨by simp only; omega, by simp; omega, fun e he => ?_⟩
        rcases List.mem_append.1 he with k | k
        · exact Nat.le_succ_of_le (h.lg e k)
        · rw [List.mem_singleton.1 k]; simp
      · simp at hp
  · split at hp
    · rename_i hk
      simp only [Option.some.injEq] at hp; subst hp
      rcases List.eq_nil_or_concat g.edges with e | ⟨es, e, h0⟩
      · exact absurd e hk.2
      · rw [List.concat_eq_append] at h0
        simp only [h0, putLeg_snoc]
        rw [h0] at h2
        refine ⟨by simp only; omega, by simp at h2 ⊢; omega, fun x hx => ?_⟩
        rcases List.mem_append.1 hx with k | k
        · exact Nat.le_succ_of_le (h.lg x (by rw [h0]; simp [k]))
        · rw [List.mem_singleton.1 k]
          have := h.lg e (by rw [h0]; simp)
          simp; omega
    · simp at hp
  · simp at hp
theorem Sm.line {N : Nat} {g g' : Gr} {l : List UInt8} {first : Bool} (h : Sm N g) (hp : lineOf g l first = some g') : Sm (N + 1) g' := by
  obtain ⟨k, t, e⟩ := sp_cons 32 l
  rw [lineOf_eq e] at hp
  obtain ⟨ns, _, _, h3⟩ := lineW_some hp
  exact h.put h3

theorem Split_any (s : ByteArray) (w : World) (hs : s.size ≤ 8192) {B : Nat} (hM : Ml B w) : Calls Tryd.prog 46 #[.string s, .string ⟨#[32]⟩] w fun e w' => ∃ (s0 : ByteArray) (ts : List ByteArray), sp 32 s.data.toList = s0.data.toList :: ts.map (fun s => s.data.toList) ∧ ts.length ≤ 8192 ∧ e = .returned (.slice (some ⟨w.heap.size, 0, none⟩) (ts.length + 1) (ts.length + 1)) ∧ w' = w.alloc (.cells (Value.string s0 :: ts.map Value.string).toArray 9) := by
  obtain ⟨m, hm⟩ := hM.cell
  refine (Tryd.strings_Split s ⟨#[32]⟩ m w (by omega) hm (by decide)).mono ?_
  rintro e w' ⟨rfl, rfl⟩
  have h1 := split_sp 32 s
  have h2 := split_len 32 s
  have h3 := sp_length_le 32 s.data.toList
  have h4 : s.data.toList.length = s.size := by rw [Array.length_toList]; rfl
  generalize Lib.splitB ⟨#[32]⟩ 0 (Lib.countB s ⟨#[32]⟩) s = L at *
  cases L with
  | nil => rw [← h1] at h2; simp at h2
  | cons s0 ts =>
    have e1 : Lib.countB s ⟨#[32]⟩ = ts.length := by rw [← h1] at h2; simpa using h2
    refine ⟨s0, ts, h1.symm, ?_, by rw [e1], rfl⟩
    rw [← h1] at h3
    simp at h3; omega

theorem wd_new (w : World) (s0 : ByteArray) (ts : List ByteArray) : (w.alloc (.cells (Value.string s0 :: ts.map Value.string).toArray 9)).cell? ⟨w.heap.size, 0, none⟩ = some (.string s0) ∧ WdAt (w.alloc (.cells (Value.string s0 :: ts.map Value.string).toArray 9)) (some ⟨w.heap.size, 1, none⟩) ts := by
  refine ⟨by simp, ?_⟩
  refine .inr ⟨w.heap.size, 1, rfl, by simp, fun j hj => ?_⟩
  rw [show 1 + j = j + 1 by omega]
  simp [hj]

theorem k_eq {s : ByteArray} {d : List UInt8} (h : s.data.toList = d) (c : List UInt8) : (s.toList == c) = (d == c) := by rw [bdl, h]
theorem k_ne {s : ByteArray} {c : List UInt8} (h : s.data.toList ≠ c) : (s.toList == c) = false := by rw [bdl]; simpa using h
theorem put_T {g : Gr} {ns : List Int} (h : ns.length ≠ 1) : put g wTime ns = none := by
  unfold put
  split
  · simp at h
  · rw [if_neg (by simp [wTime, wVertex]), if_neg (by decide)]
  · rw [if_neg (by simp [wTime, wLeg])]
  · rfl
theorem put_V {g : Gr} {ns : List Int} (h : ns.length ≠ 2 ∨ g.edges ≠ []) : put g wVertex ns = none := by
  unfold put
  split
  · rw [if_neg (by decide)]
  · rw [if_neg (fun k => by rcases h with h | h; simp at h; exact h k.2), if_neg (by decide)]
  · rw [if_neg (by simp [wVertex, wLeg])]
  · rfl
theorem put_E {g : Gr} {ns : List Int} (h : ns.length ≠ 2) : put g wEdge ns = none := by
  unfold put
  split
  · rw [if_neg (by decide)]
  · simp at h
  · rw [if_neg (by simp [wEdge, wLeg])]
  · rfl
theorem put_L {g : Gr} {ns : List Int} (h : ns.length ≠ 4 ∨ g.edges = []) : put g wLeg ns = none := by
  unfold put
  split
  · rw [if_neg (by decide)]
  · rw [if_neg (by simp [wLeg, wVertex]), if_neg (by decide)]
  · rw [if_neg (fun k => by rcases h with h | h; simp at h; exact k.2 h)]
  · rfl
theorem put_X {g : Gr} {k : List UInt8} {ns : List Int} (h1 : k ≠ wTime) (h2 : k ≠ wVertex) (h3 : k ≠ wEdge) (h4 : k ≠ wLeg) : put g k ns = none := by
  unfold put
  split
  · rw [if_neg h1]
  · rw [if_neg (fun k => h2 k.1), if_neg h3]
  · rw [if_neg (fun k => h4 k.1)]
  · rfl
theorem put_T1 {g : Gr} {a : Int} : put g wTime [a] = some { g with hor := a } := by
  unfold put
  simp only [if_true]
theorem put_V1 {g : Gr} {a b : Int} (h : g.edges = []) : put g wVertex [a, b] = some { g with lives := g.lives ++ [(a, b)] } := by
  unfold put
  simp only [h, and_self, if_true]
theorem put_E1 {g : Gr} {a b : Int} : put g wEdge [a, b] = some { g with edges := g.edges ++ [(a, b, [])] } := by
  unfold put
  have h : ¬ (wEdge = wVertex ∧ g.edges = []) := fun k => absurd k.1 (by decide)
  simp only [if_neg h, if_true]
theorem put_L1 {g : Gr} {a b c d : Int} (h : g.edges ≠ []) : put g wLeg [a, b, c, d] = some { g with edges := putLeg g.edges (a, b, c, d) } := by
  unfold put
  have h' : True ∧ g.edges ≠ [] := ⟨trivial, h⟩
  simp only [if_pos h']
theorem len1 {ns : List Int} (h : ns.length = 1) : ∃ a, ns = [a] := by
  match ns, h with
  | [a], _ => exact ⟨a, rfl⟩
theorem len2 {ns : List Int} (h : ns.length = 2) : ∃ a b, ns = [a, b] := by
  match ns, h with
  | [a, b], _ => exact ⟨a, b, rfl⟩
theorem len4 {ns : List Int} (h : ns.length = 4) : ∃ a b c d, ns = [a, b, c, d] := by
  match ns, h with
  | [a, b, c, d], _ => exact ⟨a, b, c, d, rfl⟩

set_option linter.unusedSimpArgs false in
set_option maxRecDepth 100000 in
set_option maxHeartbeats 8000000 in
theorem readLine_any (B b : Nat) (g : Gr) (s : ByteArray) (first : Bool) (w : World) (hG : GO B b w g) (hM : Ml B w) (hs : s.size ≤ 8192) (hS : Sm 10000 g) (hB : B ≤ w.heap.size) :
    Calls Tryd.prog 41 #[.pointer (some ⟨b, 0, none⟩), .string s, .bool first] w fun e w' => e = .returned (.bool (lineOf g s.data.toList first).isSome) ∧ GO B b w' ((lineOf g s.data.toList first).getD g) ∧ Below B w w' := by
  obtain ⟨ii, hii, hi0, hi1, hi2⟩ := info_parts Tryd.infoIvl
  obtain ⟨ie, hie, he0, he1, he2⟩ := info_parts Tryd.infoEdge
  obtain ⟨il, hil, hl0, hl1, hl2⟩ := info_parts Tryd.infoLeg
  obtain ⟨vL, vE, L, hO, hL⟩ := hG
  have HSp := hideg (Split_any s w hs hM)
  have HBB := hideg hB
  clear hM
  go_enter Tryd.func41, Tryd.ntmps41
  go_wp2_with fail
  refine HSp.out.mono ?_
  rintro e w1 ⟨s0, ts, hsp, htl, rfl, rfl⟩
  obtain ⟨c0, hwd⟩ := wd_new w s0 ts
  have HW := hideg hwd
  have hO1 := (hO.below (gal w (.cells (Value.string s0 :: ts.map Value.string).toArray 9)))
  have HO1 := hideg hO1
  have HB1 := hideg (gal w (.cells (Value.string s0 :: ts.map Value.string).toArray 9))
  have hs1 : (w.alloc (.cells (Value.string s0 :: ts.map Value.string).toArray 9)).heap.size = w.heap.size + 1 := by simp
  clear hwd HSp hO
  generalize w.alloc (.cells (Value.string s0 :: ts.map Value.string).toArray 9) = w1 at *
  have HLn := hideg (fun first => lineOf_eq (g := g) (first := first) hsp)
  clear hsp
  have i1 : (1 : Int) ≤ (ts.length : Int) + 1 := by omega
  have i3 : ((ts.length : Int) + 1 - 1).toNat = ts.length := by omega
  have HNum := hideg (fun ao cap (h : WdAt w1 ao ts) => numbers_any ao cap ts w1 h (by omega))
  have HG1 := hideg (hO1.gat)
  obtain ⟨la, lc, ea, ec, rfl, rfl, _, _, _⟩ := HG1.out
  have HFa : Hid (∀ w2 w3, Below w1.heap.size w1 w2 → Below w2.heap.size w2 w3 → lineOf g s.data.toList first = none → (lineOf g s.data.toList first).isSome = false ∧ GO B b w3 ((lineOf g s.data.toList first).getD g) ∧ Below B w w3) := by
    intro w2 w3 h2 h3 h
    rw [h]
    exact ⟨rfl, ⟨_, _, L, HO1.out.below (ptg h2 h3), hL⟩, (HB1.out.mono HBB.out).trans ((ptg h2 h3).mono (by omega))⟩
  clear HG1
  go_wp2_with fail
  case inl h =>
    subst h
    refine (HNum.out _ _ (.inl rfl)).mono ?_
    rintro e w2 ⟨v, rfl, hv, hb2⟩
    obtain ⟨vo, vc, rfl, _, _⟩ := row_form hv
    have hp : ∀ f, lineOf g s.data.toList f = none := fun f => by
      rw [HLn.out]
      by_cases e : f = isT s0.data.toList
      · rw [lineW_put (ns := []) rfl e]; rfl
      · exact lineW_first e
    have HF := hideg (HFa.out w2 w2 hb2 (Below.refl _ _) (hp first))
    have hbx := (HO1.out.below hb2).box
    have p2 : w2.cell? ⟨b, 2, none⟩ = some (.slice ea L.length ec) := by rw [Lib.cell_of_heap hbx]; rfl
    have q1 : nmw [] = some [] := rfl
    simp only [q1, Option.isSome_some, Option.getD_some, List.length_nil]
    clear hbx hv hb2 hp HNum
    go_wp2
    all_goals
      go_ret
      exact ⟨by rw [HF.out.1]; rfl, HF.out.2⟩
  case inr h =>
    refine (HNum.out _ _ HW.out).mono ?_
    rintro e w2 ⟨v, rfl, hv, hb2⟩
    have HO2 := hideg (HO1.out.below hb2)
    have HB2 := hideg ((HB1.out.mono HBB.out).trans (hb2.mono (by omega)))
    have HF2 := hideg (fun w3 => HFa.out w2 w3 hb2)
    have hbx := HO2.out.box
    have p0 : w2.cell? ⟨b, 0, none⟩ = some (.int .i64 g.hor) := by rw [Lib.cell_of_heap hbx]; rfl
    have p1 : w2.cell? ⟨b, 1, none⟩ = some (.slice la g.lives.length lc) := by rw [Lib.cell_of_heap hbx]; rfl
    have p2 : w2.cell? ⟨b, 2, none⟩ = some (.slice ea L.length ec) := by rw [Lib.cell_of_heap hbx]; rfl
    have hB2 : B ≤ w2.heap.size := by have := hb2.size; omega
    have HLE : Hid (g.edges = [] ↔ L = []) := by show _ ↔ _; rw [hL]; simp
    have hl10 : L.length ≤ 10000 := by have := hS.ed; rw [hL] at this; simpa using this
    clear hbx HFa HNum hb2 HO1 HB1 HW c0
    cases hm : nmw ts with
    | none =>
      rw [hm] at hv
      obtain ⟨vo, vc, rfl, _, _⟩ := row_form hv
      have HF := hideg (HF2.out w2 (Below.refl _ _) (by rw [HLn.out]; exact lineW_none hm))
      simp only [Option.isSome_none, Option.getD_none, List.length_nil]
      clear hv p0 p1 p2
      go_wp2
      all_goals
        go_ret
        exact ⟨by rw [HF.out.1]; rfl, HF.out.2⟩
    | some ns =>
      rw [hm] at hv
      simp only [Option.isSome_some, Option.getD_some] at hv ⊢
      have HFP : Hid (first = isT s0.data.toList → put g s0.data.toList ns = none → (lineOf g s.data.toList first).isSome = false ∧ GO B b w2 ((lineOf g s.data.toList first).getD g) ∧ Below B w w2) := fun h1 h2 => HF2.out w2 (Below.refl _ _) (by rw [HLn.out, lineW_put hm h1]; exact h2)
      have HFF : Hid (first ≠ isT s0.data.toList → (lineOf g s.data.toList first).isSome = false ∧ GO B b w2 ((lineOf g s.data.toList first).getD g) ∧ Below B w w2) := fun h1 => HF2.out w2 (Below.refl _ _) (by rw [HLn.out]; exact lineW_first h1)
      have HOk : Hid (∀ g', first = isT s0.data.toList → put g s0.data.toList ns = some g' → lineOf g s.data.toList first = some g') := fun g' h1 h2 => by rw [HLn.out, lineW_put hm h1]; exact h2
      have i5 : IntKind.i64.wrap ((L.length : Int) - 1) = (L.length : Int) - 1 := by unfold IntKind.wrap; simp [IntKind.bits, IntKind.signed]; omega
      clear HF2 HLn hm
      by_cases hKT : s0.data.toList = wTime
      · have kT : (s0.toList == [116, 105, 109, 101]) = true := by rw [k_eq hKT]; rfl
        have kV : (s0.toList == [118, 101, 114, 116, 101, 120]) = false := by rw [k_eq hKT]; rfl
        have kE : (s0.toList == [101, 100, 103, 101]) = false := by rw [k_eq hKT]; rfl
        have kL : (s0.toList == [108, 101, 103]) = false := by rw [k_eq hKT]; rfl
        have hi : isT s0.data.toList = true := by rw [hKT]; rfl
        rw [hi, hKT] at HFP HOk
        rw [hi] at HFF
        clear hi hKT
        cases first with
        | false =>
          obtain ⟨vo, vc, rfl, _, _⟩ := row_form hv
          have HF := hideg (HFF.out (by decide))
          clear hv p0 p1 p2 HFP HFF HOk
          go_wp2
          all_goals
            go_ret
            exact ⟨by rw [HF.out.1]; rfl, HF.out.2⟩
        | true =>
          by_cases hn : ns.length = 1
          · obtain ⟨a, rfl⟩ := len1 hn
            obtain ⟨gn, vc, rfl, hg1, hg2⟩ := hv.form (by simp)
            have n0 := hv.cellAt 0 (by simp)
            have HP := hideg (HOk.out _ rfl put_T1)
            have fz : w2.frozen? ⟨b, 0, none⟩ = false := Lib.frozen_of_heap HO2.out.box 0
            simp only [List.map_cons, List.getElem?_cons_zero, List.length_cons, List.length_nil, Nat.zero_add] at n0 hg2 ⊢
            clear hv HFP HFF HOk hn
            go_wp2
            go_ret
            rw [HP.out]
            exact ⟨rfl, ⟨_, _, L, HO2.out.setHor a, hL⟩, HB2.out.setCell (p := ⟨b, 0, none⟩) HO2.out.low _⟩
          · obtain ⟨vo, vc, rfl, _, _⟩ := row_form hv
            have HF := hideg (HFP.out rfl (put_T hn))
            have hn2 : ¬ (ns.length : Int) = 1 := by omega
            clear hv p0 p1 HFP HFF HOk
            go_wp2
            all_goals
              go_ret
              exact ⟨by rw [HF.out.1]; rfl, HF.out.2⟩
      · have kT : (s0.toList == [116, 105, 109, 101]) = false := k_ne hKT
        have hi : isT s0.data.toList = false := by unfold isT; simpa using hKT
        rw [hi] at HFP HOk HFF
        clear hi
        cases first with
        | true =>
          obtain ⟨vo, vc, rfl, _, _⟩ := row_form hv
          have HF := hideg (HFF.out (by decide))
          clear hv p0 p1 p2 HFP HFF HOk
          go_wp2
          all_goals
            go_ret
            exact ⟨by rw [HF.out.1]; rfl, HF.out.2⟩
        | false =>
          by_cases hKV : s0.data.toList = wVertex
          · have kV : (s0.toList == [118, 101, 114, 116, 101, 120]) = true := by rw [k_eq hKV]; rfl
            have kE : (s0.toList == [101, 100, 103, 101]) = false := by rw [k_eq hKV]; rfl
            have kL : (s0.toList == [108, 101, 103]) = false := by rw [k_eq hKV]; rfl
            rw [hKV] at HFP HOk
            clear hKV hKT
            by_cases hn : ns.length = 2 ∧ L = []
            · obtain ⟨hn, rfl⟩ := hn
              obtain ⟨x, y, rfl⟩ := len2 hn
              obtain ⟨gn, vc, rfl, hg1, hg2⟩ := hv.form (by simp)
              obtain ⟨cn, hcn⟩ := row_block hv (b := gn) rfl
              have n0 := hv.cellAt 0 (by simp)
              have n1 := hv.cellAt 1 (by simp)
              have HP := hideg (HOk.out _ rfl (put_V1 (HLE.out.2 rfl)))
              simp only [List.map_cons, List.map_nil, List.getElem?_cons_zero, List.getElem?_cons_succ, List.length_cons, List.length_nil, Nat.zero_add, Nat.reduceAdd] at n0 n1 ⊢
              have hlv10 := hS.lv
              have hbl := heap_ltg HO2.out.box
              have hne : some gn ≠ (Value.slice la g.lives.length lc).ownBlock := fun k => row_ne HO2.out.lv hcn (by decide) k.symm
              clear hv HFP HFF HOk hn i5 p0 hcn
              go_wp2_with fail
              refine wp_region_noPanic ?_
              refine wp_region_back (S := fun w' => w'.cell? ⟨b, 1, none⟩ = some (.slice la g.lives.length lc) ∧ w'.cell? ⟨gn, 0, none⟩ = some (.int .i64 x) ∧ w'.cell? ⟨gn, 1, none⟩ = some (.int .i64 y)) (by kernel_rfl) (by simp) (by kernel_rfl) (by kernel_rfl) ⟨p1, n0, n1⟩ (fun hHeld => ?_)
              simp only [List.pop_toArray, List.dropLast, List.back!_toArray, List.getLast!]
              refine take_lit (i := 0) (v := ?_) rfl (by kernel_rfl) (by kernel_rfl) (by kernel_rfl) (fun _ _ _ h => h) (Or.inl ⟨by rfl, ?hy0⟩) (by assumption) ?_
              case hy0 => (intro w hSw; (try dsimp only at hSw); go_simp; try with_reducible rfl)
              try simp only [Act.put, List.setIfInBounds_toArray, List.set_cons_zero, List.set_cons_succ]
              refine take_lit (i := 1) (v := ?_) rfl (by kernel_rfl) (by kernel_rfl) (by kernel_rfl) (fun _ _ _ h => h) (Or.inl ⟨by rfl, ?hy1⟩) (by assumption) ?_
              case hy1 => (intro w hSw; (try dsimp only at hSw); go_simp; try with_reducible rfl)
              try simp only [Act.put, List.setIfInBounds_toArray, List.set_cons_zero, List.set_cons_succ]
              refine take_lit (i := 2) (v := ?_) rfl (by kernel_rfl) (by kernel_rfl) (by kernel_rfl) (fun _ _ _ h => h) (Or.inl ⟨by rfl, ?hy2⟩) (by assumption) ?_
              case hy2 => (intro w hSw; (try dsimp only at hSw); go_simp; try with_reducible rfl)
              try simp only [Act.put, List.setIfInBounds_toArray, List.set_cons_zero, List.set_cons_succ]
              refine take_lit (i := 3) (v := ?_) rfl (by kernel_rfl) (by kernel_rfl) (by kernel_rfl) (fun _ _ _ h => h) (Or.inl ⟨by rfl, ?hy3⟩) (by assumption) ?_
              case hy3 => (intro w hSw; (try dsimp only at hSw); go_simp; try with_reducible rfl)
              try simp only [Act.put, List.setIfInBounds_toArray, List.set_cons_zero, List.set_cons_succ]
              refine take_lit (i := 4) (v := ?_) rfl (by kernel_rfl) (by kernel_rfl) (by kernel_rfl) (fun _ _ _ h => h) (Or.inl ⟨by rfl, ?hy4⟩) (by assumption) ?_
              case hy4 => (intro w hSw; (try dsimp only at hSw); go_simp; try with_reducible rfl)
              try simp only [Act.put, List.setIfInBounds_toArray, List.set_cons_zero, List.set_cons_succ]
              refine take_lit (i := 5) (v := ?_) rfl (by kernel_rfl) (by kernel_rfl) (by kernel_rfl) (fun _ _ _ h => h) (Or.inl ⟨by rfl, ?hy5⟩) (by assumption) ?_
              case hy5 => (intro w hSw; (try dsimp only at hSw); go_simp; try with_reducible rfl)
              try simp only [Act.put, List.setIfInBounds_toArray, List.set_cons_zero, List.set_cons_succ]
              refine take_lit (i := 6) (v := ?_) rfl (by kernel_rfl) (by kernel_rfl) (by kernel_rfl) (fun _ _ _ h => h) (Or.inl ⟨by rfl, ?hy6⟩) (by assumption) ?_
              case hy6 => (intro w hSw; (try dsimp only at hSw); go_simp; try with_reducible rfl)
              try simp only [Act.put, List.setIfInBounds_toArray, List.set_cons_zero, List.set_cons_succ]
              refine take_lit (i := 7) (v := ?_) rfl (by kernel_rfl) (by kernel_rfl) (by kernel_rfl) (fun _ _ _ h => h) (Or.inl ⟨by rfl, ?hy7⟩) (by assumption) ?_
              case hy7 => (intro w hSw; (try dsimp only at hSw); go_simp; try with_reducible rfl)
              try simp only [Act.put, List.setIfInBounds_toArray, List.set_cons_zero, List.set_cons_succ]
              refine take_lit (i := 8) (v := ?_) rfl (by kernel_rfl) (by kernel_rfl) (by kernel_rfl) (fun _ _ _ h => h) (Or.inl ⟨by rfl, ?hy8⟩) (by assumption) ?_
              case hy8 => (intro w hSw; (try dsimp only at hSw); go_simp; try with_reducible rfl)
              try simp only [Act.put, List.setIfInBounds_toArray, List.set_cons_zero, List.set_cons_succ]
              refine take_lit (i := 9) (v := ?_) rfl (by kernel_rfl) (by kernel_rfl) (by kernel_rfl) (fun _ _ _ h => h) (Or.inl ⟨by rfl, ?hy9⟩) (by assumption) ?_
              case hy9 => (intro w hSw; (try dsimp only at hSw); go_simp; try with_reducible rfl)
              try simp only [Act.put, List.setIfInBounds_toArray, List.set_cons_zero, List.set_cons_succ]
              refine take_lit (i := 10) (v := ?_) rfl (by kernel_rfl) (by kernel_rfl) (by kernel_rfl) (fun _ _ _ h => h) (Or.inl ⟨by rfl, ?hy10⟩) (by assumption) ?_
              case hy10 => (intro w hSw; (try dsimp only at hSw); go_simp; try with_reducible rfl)
              try simp only [Act.put, List.setIfInBounds_toArray, List.set_cons_zero, List.set_cons_succ]
              refine take_lit (i := 11) (v := ?_) rfl (by kernel_rfl) (by kernel_rfl) (by kernel_rfl) (fun _ _ _ h => h) (Or.inl ⟨by rfl, ?hy11⟩) (by assumption) ?_
              case hy11 => (intro w hSw; (try dsimp only at hSw); go_simp; try with_reducible rfl)
              try simp only [Act.put, List.setIfInBounds_toArray, List.set_cons_zero, List.set_cons_succ]
              refine next_lit (i := 12) rfl (by kernel_rfl) (fun K hK => ?_)
              go_simp
              have hwa : Below w2.heap.size w2 (w2.drew.alloc (.cells #[.int .i64 x, .int .i64 y] 49)) := (Below.refl _ _).drew.alloc (Nat.le_refl _) _
              have m1 := (hwa.cell (p := ⟨b, 1, none⟩) hbl).trans p1
              have m2 := (hwa.cell (p := ⟨gn, 0, none⟩) hg2).trans n0
              have m3 := (hwa.cell (p := ⟨gn, 1, none⟩) hg2).trans n1
              refine hK.out _ _ ⟨m1, m2, m3⟩ (fun hHeld => ?_)
              clear hK K hHeld
              try simp only [Act.put, List.setIfInBounds_toArray, List.set_cons_zero, List.set_cons_succ]
              refine next_lit (i := 13) rfl (by kernel_rfl) (fun K hK => ?_)
              refine step_append_lies _ (by rfl) _ _ _ (by rfl) B 49 ii _ 2 16 Tryd.underlying22 hii hi0 hi1 hi2 rfl (by omega) (.slice la g.lives.length lc) g.lives.length (encs g.lives) (by rfl) (ownsRow_below HO2.out.lv hwa) ⟨w2.heap.size, 0, none⟩ 1 1 [.int .i64 x, .int .i64 y] (by rfl) (by rfl) (World.news_of_block (cs := #[.int .i64 x, .int .i64 y]) (t := 49) (fr := (0, 0)) (heap_alloc_new w2.drew _)) (by simp [Value.oneCell']) (by omega) (by unfold maxLen; omega) (by omega) (Nat.le_trans hB2 hwa.size) (w2.heap.size + 1) (by simp) ?_
              intro gg cap1 w4 hown1 hgrow hat hltg
              obtain ⟨hbox4, hG4⟩ := HO2.out.life hwa hgrow hown1
              have x1 : w4.cell? ⟨b, 1, none⟩ = some (.slice la g.lives.length lc) := by rw [Lib.cell_of_heap hbox4]; rfl
              have x2 : w4.cell? ⟨gn, 0, none⟩ = some (.int .i64 x) := by rw [hgrow.cell_far _ (Nat.lt_of_lt_of_le hg2 hwa.size) hne]; exact m2
              have x3 : w4.cell? ⟨gn, 1, none⟩ = some (.int .i64 y) := by rw [hgrow.cell_far _ (Nat.lt_of_lt_of_le hg2 hwa.size) hne]; exact m3
              have fz4 : w4.frozen? ⟨b, 1, none⟩ = false := Lib.frozen_of_heap hbox4 1
              have HB4 := hideg (((HB2.out.trans (hwa.mono hB2)).grown hgrow (Nat.le_trans hB2 hwa.size) (fun j hj => (HO2.out.lv.lt j hj).1)).setCell (p := ⟨b, 1, none⟩) HO2.out.low (.slice (some ⟨gg, 0, none⟩) (g.lives.length + 1) cap1))
              have HG4 := hideg hG4
              refine hK.out _ _ ⟨x1, x2, x3⟩ (fun hHeld => ?_)
              clear hK K hwa m1 m2 m3 hgrow hown1 hbox4 hG4 hat hltg
              try simp only [Act.put, List.setIfInBounds_toArray, List.set_cons_zero, List.set_cons_succ]
              refine take_lit (i := 14) (v := ?_) rfl (by kernel_rfl) (by kernel_rfl) (by kernel_rfl) (fun _ _ _ h => h) (Or.inl ⟨by rfl, ?hy14⟩) (by assumption) ?_
              case hy14 => (intro w hSw; (try dsimp only at hSw); go_simp; try with_reducible rfl)
              try simp only [Act.put, List.setIfInBounds_toArray, List.set_cons_zero, List.set_cons_succ]
              refine take_lit (i := 15) (v := ?_) rfl (by kernel_rfl) (by kernel_rfl) (by kernel_rfl) (fun _ _ _ h => h) (Or.inl ⟨by rfl, ?hy15⟩) (by assumption) ?_
              case hy15 => (intro w hSw; (try dsimp only at hSw); go_simp; try with_reducible rfl)
              try simp only [Act.put, List.setIfInBounds_toArray, List.set_cons_zero, List.set_cons_succ]
              refine wpAnyH_done (by kernel_rfl) ?_ _
              refine back_last (fun K hK => ?_)
              clear hHeld
              go_simp
              refine hK.out _ _ (NoPanic.normal ?_)
              clear hK K x1 x2 x3 fz4
              go_wp2
              go_ret
              rw [HP.out]
              exact ⟨rfl, ⟨_, _, [], HG4.out, hL⟩, HB4.out⟩
            · have hz : ns.length ≠ 2 ∨ g.edges ≠ [] := by
                rcases Nat.decEq ns.length 2 with q | q
                · exact .inl q
                · exact .inr fun k => hn ⟨q, HLE.out.1 k⟩
              obtain ⟨vo, vc, rfl, _, _⟩ := row_form hv
              have HF := hideg (HFP.out rfl (put_V hz))
              have hz2 : ¬ (ns.length : Int) = 2 ∨ (ns.length : Int) = 2 ∧ 0 ≤ (L.length : Int) - 1 := by
                rcases Nat.decEq ns.length 2 with q | q
                · exact .inl (by omega)
                · refine .inr ⟨by omega, ?_⟩
                  have : L ≠ [] := fun k => hn ⟨q, k⟩
                  have := List.length_pos_iff.2 this
                  omega
              clear hv p0 p1 HFP HFF HOk hz hn
              rcases hz2 with hz2 | ⟨hz2, hz3⟩
              all_goals
                go_wp2
                all_goals
                  go_ret
                  exact ⟨by rw [HF.out.1]; rfl, HF.out.2⟩
          · have kV : (s0.toList == [118, 101, 114, 116, 101, 120]) = false := k_ne hKV
            by_cases hKE : s0.data.toList = wEdge
            · have kE : (s0.toList == [101, 100, 103, 101]) = true := by rw [k_eq hKE]; rfl
              have kL : (s0.toList == [108, 101, 103]) = false := by rw [k_eq hKE]; rfl
              rw [hKE] at HFP HOk
              clear hKV hKT hKE
              by_cases hn : ns.length = 2
              · obtain ⟨x, y, rfl⟩ := len2 hn
                obtain ⟨gn, vc, rfl, hg1, hg2⟩ := hv.form (by simp)
                obtain ⟨cn, hcn⟩ := row_block hv (b := gn) rfl
                have n0 := hv.cellAt 0 (by simp)
                have n1 := hv.cellAt 1 (by simp)
                have HP := hideg (HOk.out _ rfl put_E1)
                simp only [List.map_cons, List.map_nil, List.getElem?_cons_zero, List.getElem?_cons_succ, List.length_cons, List.length_nil, Nat.zero_add, Nat.reduceAdd] at n0 n1 ⊢
                have hbl := heap_ltg HO2.out.box
                have hne : some gn ≠ (Value.slice ea L.length ec).ownBlock := fun k => row_ne HO2.out.ed hcn (by decide) k.symm
                clear hv HFP HFF HOk hn p0 p1 hcn
                go_wp2_with fail
                refine wp_region_noPanic ?_
                refine wp_region_back (S := fun w' => w'.cell? ⟨b, 2, none⟩ = some (.slice ea L.length ec) ∧ w'.cell? ⟨gn, 0, none⟩ = some (.int .i64 x) ∧ w'.cell? ⟨gn, 1, none⟩ = some (.int .i64 y)) (by kernel_rfl) (by simp) (by kernel_rfl) (by kernel_rfl) ⟨p2, n0, n1⟩ (fun hHeld => ?_)
                simp only [List.pop_toArray, List.dropLast, List.back!_toArray, List.getLast!]
                refine take_lit (i := 0) (v := ?_) rfl (by kernel_rfl) (by kernel_rfl) (by kernel_rfl) (fun _ _ _ h => h) (Or.inl ⟨by rfl, ?hy0⟩) (by assumption) ?_
                case hy0 => (intro w hSw; (try dsimp only at hSw); go_simp; try with_reducible rfl)
                try simp only [Act.put, List.setIfInBounds_toArray, List.set_cons_zero, List.set_cons_succ]
                refine take_lit (i := 1) (v := ?_) rfl (by kernel_rfl) (by kernel_rfl) (by kernel_rfl) (fun _ _ _ h => h) (Or.inl ⟨by rfl, ?hy1⟩) (by assumption) ?_
                case hy1 => (intro w hSw; (try dsimp only at hSw); go_simp; try with_reducible rfl)
                try simp only [Act.put, List.setIfInBounds_toArray, List.set_cons_zero, List.set_cons_succ]
                refine take_lit (i := 2) (v := ?_) rfl (by kernel_rfl) (by kernel_rfl) (by kernel_rfl) (fun _ _ _ h => h) (Or.inl ⟨by rfl, ?hy2⟩) (by assumption) ?_
                case hy2 => (intro w hSw; (try dsimp only at hSw); go_simp; try with_reducible rfl)
                try simp only [Act.put, List.setIfInBounds_toArray, List.set_cons_zero, List.set_cons_succ]
                refine take_lit (i := 3) (v := ?_) rfl (by kernel_rfl) (by kernel_rfl) (by kernel_rfl) (fun _ _ _ h => h) (Or.inl ⟨by rfl, ?hy3⟩) (by assumption) ?_
                case hy3 => (intro w hSw; (try dsimp only at hSw); go_simp; try with_reducible rfl)
                try simp only [Act.put, List.setIfInBounds_toArray, List.set_cons_zero, List.set_cons_succ]
                refine take_lit (i := 4) (v := ?_) rfl (by kernel_rfl) (by kernel_rfl) (by kernel_rfl) (fun _ _ _ h => h) (Or.inl ⟨by rfl, ?hy4⟩) (by assumption) ?_
                case hy4 => (intro w hSw; (try dsimp only at hSw); go_simp; try with_reducible rfl)
                try simp only [Act.put, List.setIfInBounds_toArray, List.set_cons_zero, List.set_cons_succ]
                refine take_lit (i := 5) (v := ?_) rfl (by kernel_rfl) (by kernel_rfl) (by kernel_rfl) (fun _ _ _ h => h) (Or.inl ⟨by rfl, ?hy5⟩) (by assumption) ?_
                case hy5 => (intro w hSw; (try dsimp only at hSw); go_simp; try with_reducible rfl)
                try simp only [Act.put, List.setIfInBounds_toArray, List.set_cons_zero, List.set_cons_succ]
                refine take_lit (i := 6) (v := ?_) rfl (by kernel_rfl) (by kernel_rfl) (by kernel_rfl) (fun _ _ _ h => h) (Or.inl ⟨by rfl, ?hy6⟩) (by assumption) ?_
                case hy6 => (intro w hSw; (try dsimp only at hSw); go_simp; try with_reducible rfl)
                try simp only [Act.put, List.setIfInBounds_toArray, List.set_cons_zero, List.set_cons_succ]
                refine take_lit (i := 7) (v := ?_) rfl (by kernel_rfl) (by kernel_rfl) (by kernel_rfl) (fun _ _ _ h => h) (Or.inl ⟨by rfl, ?hy7⟩) (by assumption) ?_
                case hy7 => (intro w hSw; (try dsimp only at hSw); go_simp; try with_reducible rfl)
                try simp only [Act.put, List.setIfInBounds_toArray, List.set_cons_zero, List.set_cons_succ]
                refine take_lit (i := 8) (v := ?_) rfl (by kernel_rfl) (by kernel_rfl) (by kernel_rfl) (fun _ _ _ h => h) (Or.inl ⟨by rfl, ?hy8⟩) (by assumption) ?_
                case hy8 => (intro w hSw; (try dsimp only at hSw); go_simp; try with_reducible rfl)
                try simp only [Act.put, List.setIfInBounds_toArray, List.set_cons_zero, List.set_cons_succ]
                refine take_lit (i := 9) (v := ?_) rfl (by kernel_rfl) (by kernel_rfl) (by kernel_rfl) (fun _ _ _ h => h) (Or.inl ⟨by rfl, ?hy9⟩) (by assumption) ?_
                case hy9 => (intro w hSw; (try dsimp only at hSw); go_simp; try with_reducible rfl)
                try simp only [Act.put, List.setIfInBounds_toArray, List.set_cons_zero, List.set_cons_succ]
                refine take_lit (i := 10) (v := ?_) rfl (by kernel_rfl) (by kernel_rfl) (by kernel_rfl) (fun _ _ _ h => h) (Or.inl ⟨by rfl, ?hy10⟩) (by assumption) ?_
                case hy10 => (intro w hSw; (try dsimp only at hSw); go_simp; try with_reducible rfl)
                try simp only [Act.put, List.setIfInBounds_toArray, List.set_cons_zero, List.set_cons_succ]
                refine take_lit (i := 11) (v := ?_) rfl (by kernel_rfl) (by kernel_rfl) (by kernel_rfl) (fun _ _ _ h => h) (Or.inl ⟨by rfl, ?hy11⟩) (by assumption) ?_
                case hy11 => (intro w hSw; (try dsimp only at hSw); go_simp; try with_reducible rfl)
                try simp only [Act.put, List.setIfInBounds_toArray, List.set_cons_zero, List.set_cons_succ]
                refine next_lit (i := 12) rfl (by kernel_rfl) (fun K hK => ?_)
                go_simp
                have hwa : Below w2.heap.size w2 (w2.drew.alloc (.cells #[.int .i64 x, .int .i64 y, .slice none 0 0] 52)) := (Below.refl _ _).drew.alloc (Nat.le_refl _) _
                have m1 := (hwa.cell (p := ⟨b, 2, none⟩) hbl).trans p2
                have m2 := (hwa.cell (p := ⟨gn, 0, none⟩) hg2).trans n0
                have m3 := (hwa.cell (p := ⟨gn, 1, none⟩) hg2).trans n1
                refine hK.out _ _ ⟨m1, m2, m3⟩ (fun hHeld => ?_)
                clear hK K hHeld
                try simp only [Act.put, List.setIfInBounds_toArray, List.set_cons_zero, List.set_cons_succ]
                refine next_lit (i := 13) rfl (by kernel_rfl) (fun K hK => ?_)
                refine step_append_lies _ (by rfl) _ _ _ (by rfl) B 52 ie _ 3 40 Tryd.underlying23 hie he0 he1 he2 rfl (by omega) (.slice ea L.length ec) L.length (encE L) (by rfl) (ownsRow_below HO2.out.ed hwa) ⟨w2.heap.size, 0, none⟩ 1 1 [.int .i64 x, .int .i64 y, .slice none 0 0] (by rfl) (by rfl) (World.news_of_block (cs := #[.int .i64 x, .int .i64 y, .slice none 0 0]) (t := 52) (fr := (0, 0)) (heap_alloc_new w2.drew _)) (by simp [Value.oneCell']) (by omega) (by unfold maxLen; omega) (by omega) (Nat.le_trans hB2 hwa.size) (w2.heap.size + 1) (by simp) ?_
                intro gg cap1 w4 hown1 hgrow hat hltg
                obtain ⟨hbox4, hG4⟩ := HO2.out.edge hwa hgrow hown1
                have x1 : w4.cell? ⟨b, 2, none⟩ = some (.slice ea L.length ec) := by rw [Lib.cell_of_heap hbox4]; rfl
                have x2 : w4.cell? ⟨gn, 0, none⟩ = some (.int .i64 x) := by rw [hgrow.cell_far _ (Nat.lt_of_lt_of_le hg2 hwa.size) hne]; exact m2
                have x3 : w4.cell? ⟨gn, 1, none⟩ = some (.int .i64 y) := by rw [hgrow.cell_far _ (Nat.lt_of_lt_of_le hg2 hwa.size) hne]; exact m3
                have fz4 : w4.frozen? ⟨b, 2, none⟩ = false := Lib.frozen_of_heap hbox4 2
                have HB4 := hideg (((HB2.out.trans (hwa.mono hB2)).grown hgrow (Nat.le_trans hB2 hwa.size) (fun j hj => (HO2.out.ed.lt j hj).1)).setCell (p := ⟨b, 2, none⟩) HO2.out.low (.slice (some ⟨gg, 0, none⟩) (L.length + 1) cap1))
                have HG4 := hideg hG4
                refine hK.out _ _ ⟨x1, x2, x3⟩ (fun hHeld => ?_)
                clear hK K hwa m1 m2 m3 hgrow hown1 hbox4 hG4 hat hltg
                try simp only [Act.put, List.setIfInBounds_toArray, List.set_cons_zero, List.set_cons_succ]
                refine take_lit (i := 14) (v := ?_) rfl (by kernel_rfl) (by kernel_rfl) (by kernel_rfl) (fun _ _ _ h => h) (Or.inl ⟨by rfl, ?hy14⟩) (by assumption) ?_
                case hy14 => (intro w hSw; (try dsimp only at hSw); go_simp; try with_reducible rfl)
                try simp only [Act.put, List.setIfInBounds_toArray, List.set_cons_zero, List.set_cons_succ]
                refine take_lit (i := 15) (v := ?_) rfl (by kernel_rfl) (by kernel_rfl) (by kernel_rfl) (fun _ _ _ h => h) (Or.inl ⟨by rfl, ?hy15⟩) (by assumption) ?_
                case hy15 => (intro w hSw; (try dsimp only at hSw); go_simp; try with_reducible rfl)
                try simp only [Act.put, List.setIfInBounds_toArray, List.set_cons_zero, List.set_cons_succ]
                refine wpAnyH_done (by kernel_rfl) ?_ _
                refine back_last (fun K hK => ?_)
                clear hHeld
                go_simp
                refine hK.out _ _ (NoPanic.normal ?_)
                clear hK K x1 x2 x3 fz4
                go_wp2
                go_ret
                rw [HP.out]
                exact ⟨rfl, ⟨_, _, _, HG4.out, by rw [List.map_append, ← hL]; rfl⟩, HB4.out⟩
              · obtain ⟨vo, vc, rfl, _, _⟩ := row_form hv
                have HF := hideg (HFP.out rfl (put_E hn))
                have hz2 : ¬ (ns.length : Int) = 2 := by omega
                clear hv p0 p1 HFP HFF HOk hn
                go_wp2
                all_goals
                  go_ret
                  exact ⟨by rw [HF.out.1]; rfl, HF.out.2⟩
            · have kE : (s0.toList == [101, 100, 103, 101]) = false := k_ne hKE
              by_cases hKL : s0.data.toList = wLeg
              · have kL : (s0.toList == [108, 101, 103]) = true := by rw [k_eq hKL]; rfl
                rw [hKL] at HFP HOk
                clear hKV hKT hKE hKL
                by_cases hn : ns.length = 4 ∧ L ≠ []
                · obtain ⟨hn, hLn⟩ := hn
                  obtain ⟨x, y, z, u, rfl⟩ := len4 hn
                  obtain ⟨gn, vc, rfl, hg1, hg2⟩ := hv.form (by simp)
                  obtain ⟨cn, hcn⟩ := row_block hv (b := gn) rfl
                  have n0 := hv.cellAt 0 (by simp)
                  have n1 := hv.cellAt 1 (by simp)
                  have n2 := hv.cellAt 2 (by simp)
                  have n3 := hv.cellAt 3 (by simp)
                  have HP := hideg (HOk.out _ rfl (put_L1 (fun k => hLn (HLE.out.1 k))))
                  simp only [List.map_cons, List.map_nil, List.getElem?_cons_zero, List.getElem?_cons_succ, List.length_cons, List.length_nil, Nat.zero_add, Nat.reduceAdd] at n0 n1 n2 n3 ⊢
                  clear hv HFP HFF HOk hn p0 p1 HLE
                  obtain ⟨M, p, hMp⟩ : ∃ M p, L = M ++ [p] := by
                    rcases List.eq_nil_or_concat L with k | ⟨M, p, k⟩
                    · exact absurd k hLn
                    · exact ⟨M, p, by rw [k, List.concat_eq_append]⟩
                  subst hMp
                  obtain ⟨⟨A, C, legs⟩, v⟩ := p
                  have hlm : (M ++ [((A, C, legs), v)]).length = M.length + 1 := by simp
                  simp only [hlm] at p2 HO2 i5 hl10 ⊢
                  have hlr := HO2.out.lg ((A, C, legs), v) (by simp)
                  have hl6 : legs.length ≤ 10000 := hS.lg (A, C, legs) (by rw [hL]; simp)
                  obtain ⟨ge, ec', he, hge1, hge2⟩ := HO2.out.ed.form (by simp)
                  simp only [hlm] at he
                  rw [he] at p2 HO2
                  simp only [Value.slice.injEq, true_and] at he
                  obtain ⟨rfl, rfl⟩ := he
                  simp only at hlr
                  obtain ⟨lo, lcap, rfl, _, _⟩ := row_form hlr
                  have hed := HO2.out.ed
                  rw [hlm] at hed
                  have q2 : w2.cell? ⟨ge, M.length * 3 + 2, none⟩ = some (.slice lo legs.length lcap) := by
                    rw [hed.cellAt _ (by omega)]
                    have := (encE_get (M ++ [((A, C, legs), .slice lo legs.length lcap)]) M.length (by simp)).2.2
                    simpa using this
                  have hne : some gn ≠ (Value.slice lo legs.length lcap).ownBlock := fun k => row_ne hlr hcn (by decide) k.symm
                  have j1 : ((M.length + 1 : Nat) : Int) - 1 = (M.length : Int) := by omega
                  have j2 : (M.length : Int) < ((M.length + 1 : Nat) : Int) := by omega
                  have j3 : (0 : Int) ≤ (M.length : Int) := by omega
                  rw [j1] at i5
                  clear hlm hcn hed hLn
                  go_wp2_with fail
                  refine wp_region_noPanic ?_
                  refine wp_region_back (S := fun w' => w'.cell? ⟨ge, M.length * 3 + 2, none⟩ = some (.slice lo legs.length lcap) ∧ w'.cell? ⟨gn, 0, none⟩ = some (.int .i64 x) ∧ w'.cell? ⟨gn, 1, none⟩ = some (.int .i64 y) ∧ w'.cell? ⟨gn, 2, none⟩ = some (.int .i64 z) ∧ w'.cell? ⟨gn, 3, none⟩ = some (.int .i64 u)) (by kernel_rfl) (by simp) (by kernel_rfl) (by kernel_rfl) ⟨q2, n0, n1, n2, n3⟩ (fun hHeld => ?_)
                  simp only [List.pop_toArray, List.dropLast, List.back!_toArray, List.getLast!]
                  refine take_lit (i := 0) (v := ?_) rfl (by kernel_rfl) (by kernel_rfl) (by kernel_rfl) (fun _ _ _ h => h) (Or.inl ⟨by rfl, ?hy0⟩) (by assumption) ?_
                  case hy0 => (intro w hSw; (try dsimp only at hSw); go_simp; try with_reducible rfl)
                  try simp only [Act.put, List.setIfInBounds_toArray, List.set_cons_zero, List.set_cons_succ]
                  refine take_lit (i := 1) (v := ?_) rfl (by kernel_rfl) (by kernel_rfl) (by kernel_rfl) (fun _ _ _ h => h) (Or.inl ⟨by rfl, ?hy1⟩) (by assumption) ?_
                  case hy1 => (intro w hSw; (try dsimp only at hSw); go_simp; try with_reducible rfl)
                  try simp only [Act.put, List.setIfInBounds_toArray, List.set_cons_zero, List.set_cons_succ]
                  refine take_lit (i := 2) (v := ?_) rfl (by kernel_rfl) (by kernel_rfl) (by kernel_rfl) (fun _ _ _ h => h) (Or.inl ⟨by rfl, ?hy2⟩) (by assumption) ?_
                  case hy2 => (intro w hSw; (try dsimp only at hSw); go_simp; try with_reducible rfl)
                  try simp only [Act.put, List.setIfInBounds_toArray, List.set_cons_zero, List.set_cons_succ]
                  refine take_lit (i := 3) (v := ?_) rfl (by kernel_rfl) (by kernel_rfl) (by kernel_rfl) (fun _ _ _ h => h) (Or.inl ⟨by rfl, ?hy3⟩) (by assumption) ?_
                  case hy3 => (intro w hSw; (try dsimp only at hSw); go_simp; try with_reducible rfl)
                  try simp only [Act.put, List.setIfInBounds_toArray, List.set_cons_zero, List.set_cons_succ]
                  refine take_lit (i := 4) (v := ?_) rfl (by kernel_rfl) (by kernel_rfl) (by kernel_rfl) (fun _ _ _ h => h) (Or.inl ⟨by rfl, ?hy4⟩) (by assumption) ?_
                  case hy4 => (intro w hSw; (try dsimp only at hSw); go_simp; try with_reducible rfl)
                  try simp only [Act.put, List.setIfInBounds_toArray, List.set_cons_zero, List.set_cons_succ]
                  refine take_lit (i := 5) (v := ?_) rfl (by kernel_rfl) (by kernel_rfl) (by kernel_rfl) (fun _ _ _ h => h) (Or.inl ⟨by rfl, ?hy5⟩) (by assumption) ?_
                  case hy5 => (intro w hSw; (try dsimp only at hSw); go_simp; try with_reducible rfl)
                  try simp only [Act.put, List.setIfInBounds_toArray, List.set_cons_zero, List.set_cons_succ]
                  refine take_lit (i := 6) (v := ?_) rfl (by kernel_rfl) (by kernel_rfl) (by kernel_rfl) (fun _ _ _ h => h) (Or.inl ⟨by rfl, ?hy6⟩) (by assumption) ?_
                  case hy6 => (intro w hSw; (try dsimp only at hSw); go_simp; try with_reducible rfl)
                  try simp only [Act.put, List.setIfInBounds_toArray, List.set_cons_zero, List.set_cons_succ]
                  refine take_lit (i := 7) (v := ?_) rfl (by kernel_rfl) (by kernel_rfl) (by kernel_rfl) (fun _ _ _ h => h) (Or.inl ⟨by rfl, ?hy7⟩) (by assumption) ?_
                  case hy7 => (intro w hSw; (try dsimp only at hSw); go_simp; try with_reducible rfl)
                  try simp only [Act.put, List.setIfInBounds_toArray, List.set_cons_zero, List.set_cons_succ]
                  refine take_lit (i := 8) (v := ?_) rfl (by kernel_rfl) (by kernel_rfl) (by kernel_rfl) (fun _ _ _ h => h) (Or.inl ⟨by rfl, ?hy8⟩) (by assumption) ?_
                  case hy8 => (intro w hSw; (try dsimp only at hSw); go_simp; try with_reducible rfl)
                  try simp only [Act.put, List.setIfInBounds_toArray, List.set_cons_zero, List.set_cons_succ]
                  refine take_lit (i := 9) (v := ?_) rfl (by kernel_rfl) (by kernel_rfl) (by kernel_rfl) (fun _ _ _ h => h) (Or.inl ⟨by rfl, ?hy9⟩) (by assumption) ?_
                  case hy9 => (intro w hSw; (try dsimp only at hSw); go_simp; try with_reducible rfl)
                  try simp only [Act.put, List.setIfInBounds_toArray, List.set_cons_zero, List.set_cons_succ]
                  refine take_lit (i := 10) (v := ?_) rfl (by kernel_rfl) (by kernel_rfl) (by kernel_rfl) (fun _ _ _ h => h) (Or.inl ⟨by rfl, ?hy10⟩) (by assumption) ?_
                  case hy10 => (intro w hSw; (try dsimp only at hSw); go_simp; try with_reducible rfl)
                  try simp only [Act.put, List.setIfInBounds_toArray, List.set_cons_zero, List.set_cons_succ]
                  refine take_lit (i := 11) (v := ?_) rfl (by kernel_rfl) (by kernel_rfl) (by kernel_rfl) (fun _ _ _ h => h) (Or.inl ⟨by rfl, ?hy11⟩) (by assumption) ?_
                  case hy11 => (intro w hSw; (try dsimp only at hSw); go_simp; try with_reducible rfl)
                  try simp only [Act.put, List.setIfInBounds_toArray, List.set_cons_zero, List.set_cons_succ]
                  refine take_lit (i := 12) (v := ?_) rfl (by kernel_rfl) (by kernel_rfl) (by kernel_rfl) (fun _ _ _ h => h) (Or.inl ⟨by rfl, ?hy12⟩) (by assumption) ?_
                  case hy12 => (intro w hSw; (try dsimp only at hSw); go_simp; try with_reducible rfl)
                  try simp only [Act.put, List.setIfInBounds_toArray, List.set_cons_zero, List.set_cons_succ]
                  refine take_lit (i := 13) (v := ?_) rfl (by kernel_rfl) (by kernel_rfl) (by kernel_rfl) (fun _ _ _ h => h) (Or.inl ⟨by rfl, ?hy13⟩) (by assumption) ?_
                  case hy13 => (intro w hSw; (try dsimp only at hSw); go_simp; try with_reducible rfl)
                  try simp only [Act.put, List.setIfInBounds_toArray, List.set_cons_zero, List.set_cons_succ]
                  refine take_lit (i := 14) (v := ?_) rfl (by kernel_rfl) (by kernel_rfl) (by kernel_rfl) (fun _ _ _ h => h) (Or.inl ⟨by rfl, ?hy14⟩) (by assumption) ?_
                  case hy14 => (intro w hSw; (try dsimp only at hSw); go_simp; try with_reducible rfl)
                  try simp only [Act.put, List.setIfInBounds_toArray, List.set_cons_zero, List.set_cons_succ]
                  refine take_lit (i := 15) (v := ?_) rfl (by kernel_rfl) (by kernel_rfl) (by kernel_rfl) (fun _ _ _ h => h) (Or.inl ⟨by rfl, ?hy15⟩) (by assumption) ?_
                  case hy15 => (intro w hSw; (try dsimp only at hSw); go_simp; try with_reducible rfl)
                  try simp only [Act.put, List.setIfInBounds_toArray, List.set_cons_zero, List.set_cons_succ]
                  refine take_lit (i := 16) (v := ?_) rfl (by kernel_rfl) (by kernel_rfl) (by kernel_rfl) (fun _ _ _ h => h) (Or.inl ⟨by rfl, ?hy16⟩) (by assumption) ?_
                  case hy16 => (intro w hSw; (try dsimp only at hSw); go_simp; try with_reducible rfl)
                  try simp only [Act.put, List.setIfInBounds_toArray, List.set_cons_zero, List.set_cons_succ]
                  refine next_lit (i := 17) rfl (by kernel_rfl) (fun K hK => ?_)
                  go_simp
                  have hwa : Below w2.heap.size w2 (w2.drew.alloc (.cells #[.int .i64 x, .int .i64 y, .int .i64 z, .int .i64 u] 54)) := (Below.refl _ _).drew.alloc (Nat.le_refl _) _
                  have m1 := (hwa.cell (p := ⟨ge, M.length * 3 + 2, none⟩) hge2).trans q2
                  have m2 := (hwa.cell (p := ⟨gn, 0, none⟩) hg2).trans n0
                  have m3 := (hwa.cell (p := ⟨gn, 1, none⟩) hg2).trans n1
                  have m4 := (hwa.cell (p := ⟨gn, 2, none⟩) hg2).trans n2
                  have m5 := (hwa.cell (p := ⟨gn, 3, none⟩) hg2).trans n3
                  refine hK.out _ _ ⟨m1, m2, m3, m4, m5⟩ (fun hHeld => ?_)
                  clear hK K hHeld
                  try simp only [Act.put, List.setIfInBounds_toArray, List.set_cons_zero, List.set_cons_succ]
                  refine next_lit (i := 18) rfl (by kernel_rfl) (fun K hK => ?_)
                  refine step_append_lies _ (by rfl) _ _ _ (by rfl) B 54 il _ 4 32 Tryd.underlying50 hil hl0 hl1 hl2 rfl (by omega) (.slice lo legs.length lcap) legs.length (enc4 legs) (by rfl) (ownsRow_below hlr hwa) ⟨w2.heap.size, 0, none⟩ 1 1 [.int .i64 x, .int .i64 y, .int .i64 z, .int .i64 u] (by rfl) (by rfl) (World.news_of_block (cs := #[.int .i64 x, .int .i64 y, .int .i64 z, .int .i64 u]) (t := 54) (fr := (0, 0)) (heap_alloc_new w2.drew _)) (by simp [Value.oneCell']) (by omega) (by unfold maxLen; omega) (by omega) (Nat.le_trans hB2 hwa.size) (w2.heap.size + 1) (by simp) ?_
                  intro gg cap1 w4 hown1 hgrow hat hltg
                  obtain ⟨hbox4, x1, fz4, hG4⟩ := HO2.out.leg (l := (x, y, z, u)) hwa hgrow hown1 hat (by omega)
                  have x2 : w4.cell? ⟨gn, 0, none⟩ = some (.int .i64 x) := by rw [hgrow.cell_far _ (Nat.lt_of_lt_of_le hg2 hwa.size) hne]; exact m2
                  have x3 : w4.cell? ⟨gn, 1, none⟩ = some (.int .i64 y) := by rw [hgrow.cell_far _ (Nat.lt_of_lt_of_le hg2 hwa.size) hne]; exact m3
                  have x4 : w4.cell? ⟨gn, 2, none⟩ = some (.int .i64 z) := by rw [hgrow.cell_far _ (Nat.lt_of_lt_of_le hg2 hwa.size) hne]; exact m4
                  have x5 : w4.cell? ⟨gn, 3, none⟩ = some (.int .i64 u) := by rw [hgrow.cell_far _ (Nat.lt_of_lt_of_le hg2 hwa.size) hne]; exact m5
                  have HB4 := hideg (((HB2.out.trans (hwa.mono hB2)).grown hgrow (Nat.le_trans hB2 hwa.size) (fun j hj => (hlr.lt j hj).1)).setCell (p := ⟨ge, M.length * 3 + 2, none⟩) hge1 (.slice (some ⟨gg, 0, none⟩) (legs.length + 1) cap1))
                  have HG4 := hideg hG4
                  refine hK.out _ _ ⟨x1, x2, x3, x4, x5⟩ (fun hHeld => ?_)
                  clear hK K hwa m1 m2 m3 m4 m5 hgrow hown1 hbox4 hG4 hat hltg
                  try simp only [Act.put, List.setIfInBounds_toArray, List.set_cons_zero, List.set_cons_succ]
                  refine take_lit (i := 19) (v := ?_) rfl (by kernel_rfl) (by kernel_rfl) (by kernel_rfl) (fun _ _ _ h => h) (Or.inl ⟨by rfl, ?hy19⟩) (by assumption) ?_
                  case hy19 => (intro w hSw; (try dsimp only at hSw); go_simp; try with_reducible rfl)
                  try simp only [Act.put, List.setIfInBounds_toArray, List.set_cons_zero, List.set_cons_succ]
                  refine wpAnyH_done (by kernel_rfl) ?_ _
                  refine back_last (fun K hK => ?_)
                  clear hHeld
                  go_simp
                  refine hK.out _ _ (NoPanic.normal ?_)
                  clear hK K x1 x2 x3 x4 x5 fz4
                  go_wp2
                  go_ret
                  rw [HP.out]
                  refine ⟨rfl, ⟨_, _, _, HG4.out, ?_⟩, HB4.out⟩
                  simp only [Option.getD_some, hL, List.map_append, List.map_cons, List.map_nil, putLeg_snoc]
                · have hz : ns.length ≠ 4 ∨ g.edges = [] := by
                    rcases Nat.decEq ns.length 4 with q | q
                    · exact .inl q
                    · exact .inr (by
                        by_cases e : L = []
                        · exact HLE.out.2 e
                        · exact absurd ⟨q, e⟩ hn)
                  obtain ⟨vo, vc, rfl, _, _⟩ := row_form hv
                  have HF := hideg (HFP.out rfl (put_L hz))
                  have hz2 : ¬ (ns.length : Int) = 4 ∨ (ns.length : Int) = 4 ∧ (L.length : Int) - 1 < 0 := by
                    rcases Nat.decEq ns.length 4 with q | q
                    · exact .inl (by omega)
                    · refine .inr ⟨by omega, ?_⟩
                      have : L = [] := by
                        by_cases e : L = []
                        · exact e
                        · exact absurd ⟨q, e⟩ hn
                      rw [this]; decide
                  clear hv p0 p1 HFP HFF HOk hz hn
                  rcases hz2 with hz2 | ⟨hz2, hz3⟩
                  all_goals
                    go_wp2
                    all_goals
                      go_ret
                      exact ⟨by rw [HF.out.1]; rfl, HF.out.2⟩
              · have kL : (s0.toList == [108, 101, 103]) = false := k_ne hKL
                obtain ⟨vo, vc, rfl, _, _⟩ := row_form hv
                have HF := hideg (HFP.out rfl (put_X hKT hKV hKE hKL))
                clear hv p0 p1 HFP HFF HOk hKV hKT hKE hKL
                go_wp2
                all_goals
                  go_ret
                  exact ⟨by rw [HF.out.1]; rfl, HF.out.2⟩

end Go.Proofs.YtjjhhmlogddnkaaDoor
