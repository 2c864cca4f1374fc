/-
  What Plain of the reference tells.
-/
import Derived.Test.YtnopdnajlbaccabRRndT
import Derived.Test.YtnopdnajlbaccabRBeg
import Derived.Deep.RegionHeld3
import Derived.Laws.AppendOwnNone
namespace Go.Proofs.Ytnopdnajlbaccab
open Go.RowKit

/-- the price of an arc, by program -/
def pricZ (prog : Nat) (a : Ac) : Int := if prog = 1 then 1 else if prog = 2 then a.2.2 else 0

set_option maxRecDepth 100000 in
theorem plain1_any (a : Ac) (prog : Nat) (h3 : prog ≤ 3) (b : Nat) (w : World) (hc : w.cell? ⟨b, 0, none⟩ = some (.int .i64 prog)) (hb : b < w.heap.size) :
    Calls Try.prog 17 (#[.agg #[.int .i64 a.1, .int .i64 a.2.1, .int .i64 a.2.2]] ++ #[.pointer (some ⟨b, 0, none⟩)]) w fun e w' => e = .returned (.int .i64 (pricZ prog a)) ∧ Below w.heap.size w w' := by
  have e0 : (#[.agg #[.int .i64 a.1, .int .i64 a.2.1, .int .i64 a.2.2]] ++ #[.pointer (some ⟨b, 0, none⟩)] : Array Value) = #[.agg #[.int .i64 a.1, .int .i64 a.2.1, .int .i64 a.2.2], .pointer (some ⟨b, 0, none⟩)] := rfl
  rw [e0]
  have HB : Hid (∀ o o', Below w.heap.size w ((w.alloc o).alloc o')) := fun o o' => ptw (pal w o) (pal _ o')
  have hp : prog = 0 ∨ prog = 1 ∨ prog = 2 ∨ prog = 3 := by omega
  obtain ⟨x, y, z⟩ := a
  rcases hp with rfl | rfl | rfl | rfl
  all_goals
    simp only [pricZ] at *
    clear h3
    go_enter Try.func17, Try.ntmps17
    go_wp2
    go_ret
    exact ⟨rfl, HB.out _ _⟩

set_option maxRecDepth 100000 in
set_option maxHeartbeats 4000000 in
theorem Rounds_nil (g : Nat) (caps : Array Value) (ao bo : Option Addr) (ca cb na : Nat) (back : Bool) (w : World) :
    Calls Try.prog 15 #[.agg #[.slice ao na ca, .slice bo 0 cb], .slice none 0 0, .func (.func g) #[] caps, .bool back] w fun e w' => e = .returned (.tuple #[.slice none 0 0, .int .i64 0]) ∧ Below w.heap.size w w' := by
  obtain ⟨i0, hi, hz0, hz1, hz2⟩ := info_parts Try.infoInt
  have HB := hidep (pal w)
  go_enter Try.func15, Try.ntmps15
  go_wp2_with (at_builtin; refine wpList_append_own_none rfl _ _ 28 rfl w.heap.size 3 i0 1 Try.underlying28 hi _ 0 [] rfl (World.ownsRow_nil _ _ _ _) rfl ?_)
  refine wp_loop_rounds 1 ?_
  rw [rounds_succ]
  go_wp2_with (at_builtin; refine wpList_append_own_none rfl _ _ 28 rfl w.heap.size 3 i0 1 Try.underlying28 hi _ 0 [] rfl (World.ownsRow_nil _ _ _ _) rfl ?_)
  refine wp_loop_rounds 1 ?_
  rw [rounds_succ]
  go_wp2_with (go_at_call 13; refine (EqualI_any none none 0 0 [] [] _ (.inl rfl) (.inl rfl) (by decide)).mono ?_; rintro e w1 ⟨rfl, hb1⟩)
  go_ret2
  exact ⟨rfl, ptw (HB.out _) hb1⟩

theorem fine_nil {arcs : List Ac} {p : Ac → Int} (F : Fine [] arcs p) : arcs = [] := by
  cases arcs with
  | nil => rfl
  | cons a l => have := F.en a (by simp); simp at this; omega
theorem ways_nil {back : Bool} {arcs : List Ac} (h : ways back arcs = []) : arcs = [] := by
  cases arcs with
  | nil => rfl
  | cons a l => have := (mem_ways (back := back) (arcs := a :: l) (a := a) (by simp)).1; rw [h] at this; simp at this
/-- Rounds, of whatever Begun tells -/
theorem roundsAll_any (g : Nat) (caps : Array Value) (p : Ac → Int) (eg : ∀ args w, (callFunc g args).run Try.prog w = .ok (.enter g args) w) (ao bo : Option Addr) (ca cb na : Nat) (first : List Int) (arcs : List Ac) (back : Bool) (base0 : Nat) (v : Value) (w : World)
    (hv : w.ownsRow base0 3 1 v first.length (first.map (Value.int .i64))) (hnil : first = [] → v = .slice none 0 0) (hR : PcAt w bo arcs) (F : Fine first (ways back arcs) p) (he : back = true → Even p) (h12 : first.length ≤ 12) (h30 : arcs.length ≤ 30)
    (hf : ∀ a ∈ arcs, ∀ wq, Below w.heap.size w wq → Calls Try.prog g (#[.agg #[.int .i64 a.1, .int .i64 a.2.1, .int .i64 a.2.2]] ++ caps) wq fun e w' => e = .returned (.int .i64 (p a)) ∧ Below wq.heap.size wq w') :
    Calls Try.prog 15 #[.agg #[.slice ao na ca, .slice bo arcs.length cb], v, .func (.func g) #[] caps, .bool back] w fun e w' => ∃ v' x k, e = .returned (.tuple #[v', .int .i64 (k : Nat)]) ∧ RoundsIs arcs p back first x k ∧ w'.ownsRow w.heap.size 3 1 v' first.length (x.map (Value.int .i64)) ∧ Below w.heap.size w w' := by
  by_cases h0 : first = []
  · obtain rfl := hnil h0
    subst h0
    obtain rfl := ways_nil (fine_nil F)
    refine (Rounds_nil g caps ao bo ca cb na back w).mono ?_
    rintro e w' ⟨rfl, hb⟩
    exact ⟨_, [], 0, rfl, ⟨rfl, rfl, fun j h => by omega⟩, World.ownsRow_nil _ _ _ _, hb⟩
  · have hp : 0 < first.length := by cases first <;> simp_all
    rcases hv.2 with ⟨_, h1⟩ | ⟨fb, fc, cur, rfl, _⟩
    · omega
    · cases back
      · refine (Rounds_false g caps p eg ao bo ca cb fb fc na first arcs base0 w hv hR F he hp h12 h30 hf).mono ?_
        rintro e w' ⟨gb, c, x, k, rfl, hI, hZ, hb⟩
        exact ⟨_, x, k, rfl, hI, hZ, hb⟩
      · refine (Rounds_true g caps p eg ao bo ca cb fb fc na first arcs base0 w hv hR F he hp h12 h30 hf).mono ?_
        rintro e w' ⟨gb, c, x, k, rfl, hI, hZ, hb⟩
        exact ⟨_, x, k, rfl, hI, hZ, hb⟩

theorem rounds_best {arcs : List Ac} {p : Ac → Int} {back : Bool} {first x : List Int} {k : Nat} (F : Fine first (ways back arcs) p) (he : back = true → Even p) (R : RoundsIs arcs p back first x k) : Best first (ways back arcs) p x := by
  have go : ∀ k, Mid first (ways back arcs) p (rnds arcs p back k first) := by
    intro k
    induction k with
    | zero => exact mid_start _ _ _
    | succ k ih => exact (rn_round F he ih).mid
  have hM : Mid first (ways back arcs) p x := by rw [R.is]; exact go k
  exact rnd_end F he hM R.stop
theorem pricZ_even : Even (pricZ 3) := fun _ => rfl
/-- all is fine with a right snapshot -/
theorem fine_prog {al : List Bool} {arcs : List Ac} (S : Shot al arcs) (fr : Int) {prog : Nat} (hp : prog = 1 ∨ prog = 2 ∨ prog = 3) : Fine (firstL al (begF prog fr)) (ways (decide (prog = 3)) arcs) (pricZ prog) ∧ (decide (prog = 3) = true → Even (pricZ prog)) := by
  have nv := S.nv
  rcases hp with rfl | rfl | rfl
  · exact ⟨S.fine (fun v _ => fromF_bounds fr v) (fun a _ => by unfold pricZ; simp), fun h => by simp at h⟩
  · exact ⟨S.fine (fun v _ => fromF_bounds fr v) (fun a ha => by unfold pricZ; simpa using S.cost a ha), fun h => by simp at h⟩
  · exact ⟨S.both (fun v hv => by unfold begF; simp; omega) (fun a _ => by unfold pricZ; simp) pricZ_even, fun _ => pricZ_even⟩

set_option maxRecDepth 100000 in
set_option maxHeartbeats 8000000 in
theorem rPlain_any (ao bo : Option Addr) (ca cb : Nat) (al : List Bool) (arcs : List Ac) (fr : Int) (prog : Nat) (hp : prog = 1 ∨ prog = 2 ∨ prog = 3) (w : World) (hA : BsAt w ao al) (hR : PcAt w bo arcs) (S : Shot al arcs) :
    Calls Try.prog 6 #[.agg #[.slice ao al.length ca, .slice bo arcs.length cb], .int .i64 prog, .int .i64 fr] w fun e w' => ∃ v x k, e = .returned (.tuple #[v, .int .i64 (k : Nat)]) ∧ RoundsIs arcs (pricZ prog) (decide (prog = 3)) (firstL al (begF prog fr)) x k ∧ w'.ownsRow w.heap.size 3 1 v al.length (x.map (Value.int .i64)) ∧ Below w.heap.size w w' := by
  have eg1 : ∀ args w, (callFunc 17 args).run Try.prog w = .ok (.enter 17 args) w := fun args w => rfl
  have HFN := hidep (fine_prog S fr hp)
  have HS := hidep S
  have HB : Hid (∀ o o', Below w.heap.size w ((w.alloc o).alloc o')) := fun o o' => ptw (pal w o) (pal _ o')
  have HBg : Hid (∀ W, Below w.heap.size w W → Calls Try.prog 16 #[.agg #[.slice ao al.length ca, .slice bo arcs.length cb], .int .i64 prog, .int .i64 fr] W fun e w' => ∃ v, e = .returned v ∧ w'.ownsRow W.heap.size 3 1 v al.length ((firstL al (begF prog fr)).map (Value.int .i64)) ∧ (al = [] → v = .slice none 0 0) ∧ Below W.heap.size W w') := fun W hW => rBegun_any ao bo ca arcs.length cb al prog fr W (hA.below hW) S.nv
  have HRd : Hid (∀ W base0 v, Below w.heap.size w W → w.heap.size + 1 < W.heap.size → W.cell? ⟨w.heap.size + 1, 0, none⟩ = some (.int .i64 prog) → W.ownsRow base0 3 1 v al.length ((firstL al (begF prog fr)).map (Value.int .i64)) → (al = [] → v = .slice none 0 0) → Calls Try.prog 15 #[.agg #[.slice ao al.length ca, .slice bo arcs.length cb], v, .func (.func 17) #[] #[.pointer (some ⟨w.heap.size + 1, 0, none⟩)], .bool (decide (prog = 3))] W fun e w' => ∃ v' x k, e = .returned (.tuple #[v', .int .i64 (k : Nat)]) ∧ RoundsIs arcs (pricZ prog) (decide (prog = 3)) (firstL al (begF prog fr)) x k ∧ w'.ownsRow W.heap.size 3 1 v' al.length (x.map (Value.int .i64)) ∧ Below W.heap.size W w') := by
    intro W base0 v hW hlt hc ho hnil
    have := roundsAll_any 17 #[.pointer (some ⟨w.heap.size + 1, 0, none⟩)] (pricZ prog) eg1 ao bo ca cb al.length (firstL al (begF prog fr)) arcs (decide (prog = 3)) base0 v W (by rw [firstL_length]; exact ho) (fun h => hnil (List.eq_nil_of_length_eq_zero (by rw [← firstL_length al (begF prog fr), h]; rfl))) (hR.below hW) HFN.out.1 HFN.out.2 (by rw [firstL_length]; exact HS.out.nv) HS.out.na (fun a _ wq hq => plain1_any a prog (by omega) _ wq ((hq.cell (p := ⟨w.heap.size + 1, 0, none⟩) hlt).trans hc) (Nat.lt_of_lt_of_le hlt hq.size))
    rw [firstL_length] at this
    exact this
  clear S hA hR eg1 HS HFN
  have hzk : ((prog : Int) == 3) = decide (prog = 3) := by rw [Bool.eq_iff_iff]; simp; omega
  generalize decide (prog = 3) = bk at *
  generalize pricZ prog = pz at *
  generalize (prog : Int) = z at *
  clear hp
  generalize hfi : firstL al (begF z fr) = first at *
  clear hfi
  have B2 : Hid (∀ W, Below ((w.alloc (.cells #[.slice ao al.length ca, .slice bo arcs.length cb] 25)).alloc (.cells #[.int .i64 z] 3)).heap.size ((w.alloc (.cells #[.slice ao al.length ca, .slice bo arcs.length cb] 25)).alloc (.cells #[.int .i64 z] 3)) W → W.cell? ⟨w.heap.size, 0, none⟩ = some (.slice ao al.length ca) ∧ W.cell? ⟨w.heap.size, 1, none⟩ = some (.slice bo arcs.length cb) ∧ W.cell? ⟨w.heap.size + 1, 0, none⟩ = some (.int .i64 z) ∧ Below w.heap.size w W ∧ w.heap.size + 1 < W.heap.size) := by
    intro W h
    have hz := h.size
    simp only [World.size_alloc] at hz
    refine ⟨?_, ?_, ?_, ptw (HB.out _ _) h, by omega⟩
    · rw [h.cell (p := ⟨w.heap.size, 0, none⟩) (by simp; omega), World.cell?_alloc_past _ _ _ (by simp), World.cell?_alloc_at _ _ _ _ rfl]; rfl
    · rw [h.cell (p := ⟨w.heap.size, 1, none⟩) (by simp; omega), World.cell?_alloc_past _ _ _ (by simp), World.cell?_alloc_at _ _ _ _ rfl]; rfl
    · rw [h.cell (p := ⟨w.heap.size + 1, 0, none⟩) (by simp), World.cell?_alloc_at _ _ _ _ (by simp)]; rfl
  clear HB
  obtain ⟨a0, a1, a2, _, a4⟩ := B2.out _ (Below.refl _ _)
  go_enter Try.func6, Try.ntmps6
  go_wp2_with fail
  generalize (w.alloc (.cells #[.slice ao al.length ca, .slice bo arcs.length cb] 25)).alloc (.cells #[.int .i64 z] 3) = w2 at *
  go_region_held3 (fun w' => w'.cell? ⟨w.heap.size, 0, none⟩ = some (.slice ao al.length ca) ∧ w'.cell? ⟨w.heap.size, 1, none⟩ = some (.slice bo arcs.length cb) ∧ w'.cell? ⟨w.heap.size + 1, 0, none⟩ = some (.int .i64 z))
    (first | go_keep | (refine ⟨?_, ?_, ?_⟩ <;> assumption))
    (first
      | (go_at_call 16; refine (HBg.out _ (B2.out _ (Below.refl _ _).drew).2.2.2.1).mono ?_; rintro e w3 ⟨v, rfl, hown3, hnil3, hb3⟩; have hb3' : Below w2.heap.size w2 w3 := ptw (Below.refl _ _).drew hb3; obtain ⟨d0, d1, d2, d3, d4⟩ := B2.out _ hb3')
      | (revert hb3'; intro hb3'; go_at_call 15; refine (HRd.out _ _ _ d3 d4 d2 hown3 hnil3).mono ?_; rintro e w4 ⟨v4, x4, k4, rfl, hI4, hown4, hb4⟩; have hb4' : Below w2.heap.size w2 w4 := ptw hb3' hb4; obtain ⟨e0, e1, e2, e3, e4⟩ := B2.out _ hb4'))
  all_goals
    have HI := hidep hI4
    have HO := hidep (owns_base2 (base' := w.heap.size) hown4 (by omega))
    have HE3 := hidep e3
    clear hI4 hown4 hown3 hnil3 hb3 hb4
    go_wp2
    go_ret2
    exact ⟨_, _, _, rfl, HI.out, HO.out, HE3.out⟩

end Go.Proofs.Ytnopdnajlbaccab
