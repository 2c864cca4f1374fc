/-
  What Rounds of the reference tells.
-/
import Derived.Test.YtnopdnajlbaccabEqI
import Derived.Test.YtnopdnajlbaccabPlSpr
namespace Go.Proofs.Ytnopdnajlbaccab
open Go.RowKit

def blkOf : Value → Nat
  | .slice (some a) _ _ => a.block
  | _ => 0
/-- what Rounds comes to: so many rounds, each of which turned something, and none more would -/
structure RoundsIs (arcs : List Ac) (p : Ac → Int) (back : Bool) (first x : List Int) (k : Nat) : Prop where
  is : x = rnds arcs p back k first
  stop : rnd arcs p back x = x
  on : ∀ j, j < k → ¬ rnd arcs p back (rnds arcs p back j first) = rnds arcs p back j first
theorem zsAt_of_zo {w : World} {base gb n cap : Nat} {x : List Int} (h : Zo w base gb n cap x) : ZsAt w (some ⟨gb, 0, none⟩) x := by
  have hl := h.len
  refine .inr ⟨gb, 0, rfl, (World.ownsRow.lt h gb rfl).2, fun j hj => ?_⟩
  rw [Nat.zero_add]; exact h.cell (by omega)
theorem zo_news {w : World} {base gb n cap : Nat} {x : List Int} (h : Zo w base gb n cap x) : ∀ j u, (x.map (Value.int .i64))[j]? = some u → w.cell? ((⟨gb, 0, none⟩ : Addr).add j) = some u := World.ownsRow.cells h rfl
theorem Zo.kept {w w' : World} {base gb n cap g2 : Nat} {x : List Int} (h : Zo w base gb n cap x) (hg : w.grownBy w' (some g2)) (hne : gb ≠ g2) : Zo w' base gb n cap x :=
  World.ownsRow.kept h hg (.inr (fun e => hne (Option.some.inj e)))
theorem map_one (x : List Int) : ∀ u ∈ x.map (Value.int .i64), u.oneCell' = true := by intro u hu; rw [List.mem_map] at hu; obtain ⟨z, _, rfl⟩ := hu; rfl
/-- a row that append made of nothing -/
theorem zo_made {w : World} {base n : Nat} {v : Value} {x : List Int} (h : w.ownsRow base 3 1 v n (x.map (Value.int .i64))) (hn : 0 < n) : ∃ g c, v = .slice (some ⟨g, 0, none⟩) n c ∧ Zo w base g n c x := by
  rcases h.2 with ⟨_, h0⟩ | ⟨g, cap, cur, rfl, _⟩
  · omega
  · exact ⟨g, cap, rfl, h⟩

theorem min_if (a b : Int) : (if b < a then b else a) = min a b := by
  by_cases h : b < a
  · rw [if_pos h]; omega
  · rw [if_neg h]; omega
/-- the first step of an arc -/
theorem rel1_parts (p : Ac → Int) (back : Bool) (x z : List Int) (a : Ac) {A B : Nat} (eA : a.1 = (A : Int)) (eB : a.2.1 = (B : Int)) :
    rel1 p back x z a = if back = true then (z.set B (min (z.getD B 0) (x.getD A 0 + p a))).set A (min ((z.set B (min (z.getD B 0) (x.getD A 0 + p a))).getD A 0) (x.getD B 0 + p a)) else z.set B (min (z.getD B 0) (x.getD A 0 + p a)) := by
  unfold rel1 vat; rw [eA, eB]; rfl

set_option maxRecDepth 100000 in
set_option maxHeartbeats 8000000 in
theorem Rounds_false (g : Nat) (caps : Array Value) (p : Ac → Int) (eg : ∀ args w, (callFunc g args).run Try.prog w = .ok (.enter g args) w) (ao bo : Option Addr) (ca cb fb fc na : Nat) (first : List Int) (arcs : List Ac) (base0 : Nat) (w : World)
    (hFi : Zo w base0 fb first.length fc first) (hR : PcAt w bo arcs) (F : Fine first (ways false arcs) p) (he : false = true → Even p) (h0 : 0 < first.length) (h12 : first.length ≤ 12) (h30 : arcs.length ≤ 30)
    (hf : ∀ a ∈ arcs, ∀ wq, Below w.heap.size w wq → Calls Try.prog g (#[.agg #[.int .i64 a.1, .int .i64 a.2.1, .int .i64 a.2.2]] ++ caps) wq fun e w' => e = .returned (.int .i64 (p a)) ∧ Below wq.heap.size wq w') :
    Calls Try.prog 15 #[.agg #[.slice ao na ca, .slice bo arcs.length cb], .slice (some ⟨fb, 0, none⟩) first.length fc, .func (.func g) #[] caps, .bool false] w fun e w' => ∃ gb c x k, e = .returned (.tuple #[.slice (some ⟨gb, 0, none⟩) first.length c, .int .i64 (k : Nat)]) ∧ RoundsIs arcs p false first x k ∧ Zo w' w.heap.size gb first.length c x ∧ Below w.heap.size w w' := by
  obtain ⟨i0, hi, hz0, hz1, hz2⟩ := info_parts Try.infoInt
  have HF := hidep hf
  have HFine := hidep F
  have HRR : Hid (∀ x, Mid first (ways false arcs) p x → Mid first (ways false arcs) p (rnd arcs p false x)) := fun x hx => (rn_round F he hx).mid
  have HRL : Hid (∀ x, Mid first (ways false arcs) p x → ¬ rnd arcs p false x = x → msum (rnd arcs p false x) < msum x) := fun x hx h => rnd_less F he hx h
  have HEn : Hid (EndsIn first.length arcs) := fun a ha => F.en a (mem_ways ha).1
  have HPl : Hid (∀ a ∈ arcs, 0 ≤ p a ∧ p a ≤ 1000) := fun a ha => F.pl a (mem_ways ha).1
  have HMs : Hid (msum first ≤ 20000000000000) := by
    have := msum_bound first (fun z hz => by obtain ⟨i, hi, rfl⟩ := List.getElem_of_mem hz; have := F.hi i hi; rw [List.getD_eq_getElem?_getD, List.getElem?_eq_getElem hi] at this; exact this)
    show _ ≤ _
    omega
  have hnews := hidep (zo_news hFi)
  have HFl := hidep (World.ownsRow.lt hFi fb rfl).2
  clear hf F he hFi
  obtain ⟨n, hn⟩ : ∃ n, n = first.length := ⟨_, rfl⟩
  rw [← hn]
  have HN := hidep hn
  have h0' : 0 < n := by omega
  have h12' : n ≤ 12 := by omega
  clear hn h0 h12
  have HD1 : Hid ((first.map (Value.int .i64)).length = n * 1) := by show _ = _; rw [List.length_map, ← HN.out, Nat.mul_one]
  have HD2 : Hid (∀ o j u, (first.map (Value.int .i64))[j]? = some u → (w.alloc o).cell? ((⟨fb, 0, none⟩ : Addr).add j) = some u) := by
    intro o j u hu
    have h := hnews.out j u hu
    rw [Go.WideShapes.add_plain] at h ⊢
    rw [(pal w _).cell (p := ⟨fb, 0 + j, none⟩) HFl.out]
    exact h
  have HD3 := hidep (map_one first)
  have HD6 : Hid (∀ o, w.heap.size + 1 ≤ (w.alloc o).heap.size) := fun o => by simp
  go_enter Try.func15, Try.ntmps15
  go_wp2_with (at_builtin; refine wpList_append_own _ rfl _ _ 28 rfl (w.heap.size + 1) 3 i0 (.int .i64 0) 1 8 Try.underlying28 hi hz0 hz1 hz2 rfl (by decide) _ 0 [] rfl (World.ownsRow_nil _ _ _ _) ⟨fb, 0, none⟩ n fc (first.map (Value.int .i64)) rfl HD1.out (HD2.out _) HD3.out (by unfold maxLen; omega) (by omega) (HD6.out _) ?_)
  intro v1 w1 hown1 hgrow1 _
  obtain ⟨g1, c1, rfl, hZ1⟩ := zo_made hown1 h0'
  have hb1 : Below (w.heap.size + 1) (w.alloc (.cells #[.slice ao na ca, .slice bo arcs.length cb] 25)) w1 := (Below.refl _ _).grown hgrow1 (by simp) (fun k hk => by cases hk)
  have HZ1 := hidep hZ1
  have HB1 := hidep hb1
  clear hown1 hgrow1 hZ1 hb1 hnews HD1 HD2 HD3 HD6
  go_wp2
  go_loopw [10, 11, 12, 13, 14] (fun vn vk _ _ _ wr => ∃ (k g1 c1 : Nat) (x : List Int), vn = .slice (some ⟨g1, 0, none⟩) n c1 ∧ vk = .int .i64 k ∧ x = rnds arcs p false k first ∧ (∀ j, j < k → ¬ rnd arcs p false (rnds arcs p false j first) = rnds arcs p false j first) ∧ Mid first (ways false arcs) p x ∧ k + msum x ≤ msum first ∧ Zo wr (w.heap.size + 1) g1 n c1 x ∧ Below (w.heap.size + 1) (w.alloc (.cells #[.slice ao na ca, .slice bo arcs.length cb] 25)) wr) (fun vn _ _ _ _ wr => msum (rdL wr (blkOf vn) n))
  case atStart => exact ⟨0, g1, c1, first, rfl, rfl, rfl, (fun j h => by omega), mid_start _ _ _, by omega, HZ1.out, HB1.out⟩
  case round =>
    obtain ⟨k, g1, c1, x, rfl, rfl, hx, hon, hM, hms, hZ, hb⟩ := hrel
    have HX := hidep hx
    have HOn := hidep hon
    have HM := hidep hM
    have HMx := hidep hms
    have HZx := hidep hZ
    have HB := hidep hb
    have hxl := hZ.len
    have hz := hb.size
    simp only [World.size_alloc] at hz
    have hkb : (k : Int) ≤ 20000000000000 := by have := HMs.out; have := HMx.out; omega
    clear hx hon hM hms
    have hn2 := hidep (zo_news hZ)
    have hg1 := World.ownsRow.lt hZ g1 rfl
    clear hZ hb
    obtain ⟨wo, rfl⟩ : ∃ x, x = wr := ⟨_, rfl⟩
    have HE1 : Hid ((x.map (Value.int .i64)).length = n * 1) := by show _ = _; rw [List.length_map, hxl, Nat.mul_one]
    have HE3 := hidep (map_one x)
    go_wp2_with (at_builtin; refine wpList_append_own _ rfl _ _ 28 rfl wo.heap.size 3 i0 (.int .i64 0) 1 8 Try.underlying28 hi hz0 hz1 hz2 rfl (by decide) _ 0 [] rfl (World.ownsRow_nil _ _ _ _) ⟨g1, 0, none⟩ n c1 (x.map (Value.int .i64)) rfl HE1.out hn2.out HE3.out (by unfold maxLen; omega) (by omega) (Nat.le_refl _) ?_)
    intro v2 w2 hown2 hgrow2 _
    obtain ⟨g2, c2, rfl, hZ2⟩ := zo_made hown2 h0'
    have hg2 := (World.ownsRow.lt hZ2 g2 rfl).1
    have HZ2 := hidep hZ2
    have HB2 : Hid (Below wo.heap.size wo w2) := (Below.refl _ _).grown hgrow2 (Nat.le_refl _) (fun k hk => by cases hk)
    clear hown2 hgrow2 hZ2 hn2 HE1 HE3
    go_wp2
    go_loopw [13, 14] (fun vi _ wr => ∃ (i : Nat) (z : List Int), i ≤ arcs.length ∧ vi = .int .i64 i ∧ z = (arcs.take i).foldl (rel1 p false x) x ∧ Zo wr wo.heap.size g2 n c2 z ∧ Below wo.heap.size wo wr) (fun vi _ _ => arcs.length - (intOf vi).toNat)
    case atStart => exact ⟨0, x, Nat.zero_le _, rfl, by rw [List.take_zero]; rfl, HZ2.out, HB2.out⟩
    case round =>
      obtain ⟨i, z, hi', rfl, hz', hZ, hb⟩ := hrel
      have HZz := hidep hz'
      have HZZ := hidep hZ
      have HBB := hidep hb
      have hzr := hb.size
      have q1 : wr.cell? ⟨w.heap.size, 1, none⟩ = some (.slice bo arcs.length cb) := by
        rw [hb.cell (p := ⟨w.heap.size, 1, none⟩) (by show w.heap.size < _; omega), HB.out.cell (p := ⟨w.heap.size, 1, none⟩) (by simp)]; simp
      have hlw : w.heap.size < wr.heap.size := by omega
      have HBW : Hid (Below w.heap.size w wr) := (((pal w _).trans (HB.out.mono (by omega)))).trans (hb.mono (by omega))
      clear hz'
      by_cases hlt : i < arcs.length
      · rcases hR.below HBW.out with h0 | ⟨b, off, rfl, hbr, hc⟩
        · subst h0; simp at hlt
        obtain ⟨e0, e1, e2⟩ := PcAt.at3 hlt hc
        obtain ⟨A, B, hA, hB, eA, eB⟩ := arc_parts HEn.out hlt
        rw [← HN.out] at hA hB
        have hm : arcs[i] ∈ arcs := List.getElem_mem hlt
        have HCL : Hid (∀ W, Below wo.heap.size wo W → Calls Try.prog g (#[.agg #[.int .i64 (A : Int), .int .i64 (B : Int), .int .i64 arcs[i].2.2]] ++ caps) W fun e w' => e = .returned (.int .i64 (p arcs[i])) ∧ Below W.heap.size W w') := by
          intro W hW
          have := HF.out _ hm W (((pal w _).trans (HB.out.mono (by omega))).trans (hW.mono (by omega)))
          rw [eA, eB] at this
          exact this
        have hp := HPl.out _ hm
        have b1 := HM.out.lo HFine.out A (by rw [← HN.out]; omega)
        have b2 := HM.out.hi HFine.out A (by rw [← HN.out]; omega)
        have b3 := HM.out.lo HFine.out B (by rw [← HN.out]; omega)
        have b4 := HM.out.hi HFine.out B (by rw [← HN.out]; omega)
        have HFT : Hid ((arcs.take (i + 1)).foldl (rel1 p false x) x = rel1 p false x z arcs[i]) := by show _ = _; rw [fold_take _ _ _ _ _ hlt, HZz.out]
        rw [rel1_parts p false x z arcs[i] eA eB] at HFT
        have zA := hZ.cell hA
        have zB := hZ.cell hB
        have xA : wr.cell? ⟨g1, A, none⟩ = some (.int .i64 (x.getD A 0)) := by rw [hb.cell (p := ⟨g1, A, none⟩) hg1.2]; exact HZx.out.cell hA
        have xB : wr.cell? ⟨g1, B, none⟩ = some (.int .i64 (x.getD B 0)) := by rw [hb.cell (p := ⟨g1, B, none⟩) hg1.2]; exact HZx.out.cell hB
        have hgl := World.ownsRow.lt hZ g2 rfl
        have HG : Hid (g1 < wr.heap.size) := by show _ < _; omega
        rw [eA] at e0
        rw [eB] at e1
        clear hc eA eB hm hR
        generalize p arcs[i] = pa at *
        generalize arcs[i].2.2 = ac at *
        generalize x.getD A 0 = tA at *
        generalize x.getD B 0 = tB at *
        generalize hsB : z.getD B 0 = sB at *
        clear hsB
        have hiA : (A : Int) < (n : Int) := by omega
        have hiB : (B : Int) < (n : Int) := by omega
        have hw1 : IntKind.i64.wrap (tA + pa) = tA + pa := wrap_small _ (by omega) (by omega)
        have hw2 : IntKind.i64.wrap (tB + pa) = tB + pa := wrap_small _ (by omega) (by omega)
        have hne2 : Nonempty (HeldIn (wr.alloc (.cells #[.int .i64 (A : Int), .int .i64 (B : Int), .int .i64 ac] 39))) := ⟨⟨_, Below.refl _ _⟩⟩
        have f0 : ∀ s : HeldIn (wr.alloc (.cells #[.int .i64 (A : Int), .int .i64 (B : Int), .int .i64 ac] 39)), s.w.cell? ⟨wr.heap.size, 0, none⟩ = some (.int .i64 A) := fun s => by rw [s.h.cell (p := ⟨wr.heap.size, 0, none⟩) (by simp)]; simp
        have f1 : ∀ s : HeldIn (wr.alloc (.cells #[.int .i64 (A : Int), .int .i64 (B : Int), .int .i64 ac] 39)), s.w.cell? ⟨wr.heap.size, 1, none⟩ = some (.int .i64 B) := fun s => by rw [s.h.cell (p := ⟨wr.heap.size, 1, none⟩) (by simp)]; simp
        have f2 : ∀ s : HeldIn (wr.alloc (.cells #[.int .i64 (A : Int), .int .i64 (B : Int), .int .i64 ac] 39)), s.w.cell? ⟨wr.heap.size, 2, none⟩ = some (.int .i64 ac) := fun s => by rw [s.h.cell (p := ⟨wr.heap.size, 2, none⟩) (by simp)]; simp
        have f3 : ∀ s : HeldIn (wr.alloc (.cells #[.int .i64 (A : Int), .int .i64 (B : Int), .int .i64 ac] 39)), s.w.cell? ⟨g1, A, none⟩ = some (.int .i64 tA) := fun s => by rw [s.h.cell (p := ⟨g1, A, none⟩) (by simp; have := HG.out; omega), (pal wr _).cell (p := ⟨g1, A, none⟩) HG.out]; exact xA
        have f4 : ∀ s : HeldIn (wr.alloc (.cells #[.int .i64 (A : Int), .int .i64 (B : Int), .int .i64 ac] 39)), s.w.cell? ⟨g2, B, none⟩ = some (.int .i64 sB) := fun s => by rw [s.h.cell (p := ⟨g2, B, none⟩) (by simp; omega), (pal wr _).cell (p := ⟨g2, B, none⟩) hgl.2]; exact zB
        have HQ : Hid (∀ w1, Below (wr.alloc (.cells #[.int .i64 (A : Int), .int .i64 (B : Int), .int .i64 ac] 39)).heap.size (wr.alloc (.cells #[.int .i64 (A : Int), .int .i64 (B : Int), .int .i64 ac] 39)) w1 → Below wr.heap.size wr w1 ∧ Zo w1 wo.heap.size g2 n c2 z ∧ wr.heap.size < w1.heap.size) := by
          intro w1 h1
          have h2 := ptw (pal wr _) h1
          have hz := h1.size
          simp only [World.size_alloc] at hz
          exact ⟨h2, HZZ.out.below h2, by omega⟩
        have hcl : ∀ s : HeldIn (wr.alloc (.cells #[.int .i64 (A : Int), .int .i64 (B : Int), .int .i64 ac] 39)), Calls Try.prog g (#[.agg #[.int .i64 (A : Int), .int .i64 (B : Int), .int .i64 ac]] ++ caps) s.w fun e w' => e = .returned (.int .i64 pa) ∧ Below s.w.heap.size s.w w' := fun s => HCL.out _ (ptw HBB.out (ptw (pal wr _) s.h))
        clear hZ hb
        go_wp2_with fail
        refine wp_region_held_back _ (Below.refl _ _) (by kernel_rfl) (by simp) (by kernel_rfl) (by kernel_rfl) (by kernel_rfl) ?_
        simp only [List.pop_toArray, List.dropLast, List.back!_toArray, List.getLast!]
        repeat (go_big_quiet_step ((go_at_fn g; exact held_of (hcl _))))
        refine wpQuiet_nil ?_
        rintro _ ⟨s, rfl⟩
        refine back_last (fun K hK => ?_)
        have k0 := f0 s
        have k1 := f1 s
        have k2 := f2 s
        have k4 := f4 s
        obtain ⟨hb4, hZ4, hl4⟩ := HQ.out _ s.h
        have fz := World.ownsRow.frozenAt hZ4 B
        have hgl4 := (World.ownsRow.lt hZ4 g2 rfl).2
        clear f0 f1 f2 f3 f4 hne2 HQ hcl
        generalize s.w = w4 at *
        clear s
        go_simp
        refine hK.out _ _ ?_
        clear hK K
        have hmin := min_if sB (tA + pa)
        rw [← hmin] at HFT
        generalize (if tA + pa < sB then tA + pa else sB) = m1 at HFT ⊢
        clear hmin
        have G5 := gby_set w4 g2 B (.int .i64 m1)
        have hne5 : some wr.heap.size ≠ some g2 := fun e => by have := Option.some.inj e; omega
        have j0 := (G5.cell_far ⟨wr.heap.size, 0, none⟩ hl4 hne5).trans k0
        have j1 := (G5.cell_far ⟨wr.heap.size, 1, none⟩ hl4 hne5).trans k1
        have j2 := (G5.cell_far ⟨wr.heap.size, 2, none⟩ hl4 hne5).trans k2
        have jB : (w4.setCell ⟨g2, B, none⟩ (.int .i64 m1)).cell? ⟨g1, B, none⟩ = some (.int .i64 tB) := by
          rw [G5.cell_far ⟨g1, B, none⟩ (Nat.lt_of_lt_of_le HG.out hb4.size) (show some g1 ≠ some g2 from fun e => by have := Option.some.inj e; omega), hb4.cell (p := ⟨g1, B, none⟩) HG.out]; exact xB
        have hZ5 := hZ4.set B m1
        have jA := hZ5.cell hA
        have hl5 : wr.heap.size < (w4.setCell ⟨g2, B, none⟩ (.int .i64 m1)).heap.size := Nat.lt_of_lt_of_le hl4 G5.size
        have HB5 : Hid (Below wo.heap.size wo (w4.setCell ⟨g2, B, none⟩ (.int .i64 m1))) := (ptw HBB.out hb4).setCell hg2 _
        have HW5 : Hid (∀ W, Below (w4.setCell ⟨g2, B, none⟩ (.int .i64 m1)).heap.size (w4.setCell ⟨g2, B, none⟩ (.int .i64 m1)) W → Calls Try.prog g (#[.agg #[.int .i64 (A : Int), .int .i64 (B : Int), .int .i64 ac]] ++ caps) W fun e w' => e = .returned (.int .i64 pa) ∧ Below W.heap.size W w') := by
          intro W hW
          exact HCL.out W ((ptw HB5.out hW))
        clear k0 k1 k2 k4 fz hgl4 hZ4 hb4 hl4 HCL xA xB zA zB
        generalize w4.setCell ⟨g2, B, none⟩ (.int .i64 m1) = w5 at *
        simp only [Bool.false_eq_true, if_false] at HFT
        clear jA j0 j1 j2 jB HW5
        have HZ5 := hidep hZ5
        clear hZ5
        go_wp2
        go_roundw
        case rel => exact ⟨i + 1, _, by omega, by go_num, HFT.out.symm, HZ5.out, HB5.out⟩
        case measure => simp [intOf]; omega
      · have hil : i = arcs.length := by omega
        have HRz : Hid (z = rnd arcs p false x) := by show _ = _; rw [HZz.out, hil, List.take_length]; rfl
        have hEq := EqualI_any (some ⟨g2, 0, none⟩) (some ⟨g1, 0, none⟩) c2 c1 z x wr (zsAt_of_zo hZ) (zsAt_of_zo (HZx.out.below hb)) (by rw [hZ.len]; omega)
        rw [hZ.len, hxl] at hEq
        have HMz : Hid (Mid first (ways false arcs) p z) := by
          show Mid _ _ _ _
          rw [HRz.out]; exact HRR.out _ HM.out
        by_cases hfix : z = x
        · have HI : Hid (RoundsIs arcs p false first x k) := ⟨HX.out, by rw [← HRz.out]; exact hfix, HOn.out⟩
          have hd : decide (z = x) = true := by simpa using hfix
          rw [hd] at hEq
          clear hfix hd hZ hb
          go_wp2_with fail
          refine hEq.mono ?_
          rintro e w6 ⟨rfl, hb6⟩
          have HZ6 : Hid (Zo w6 w.heap.size g1 n c1 x) := owns_base2 ((HZx.out.below HBB.out).below hb6) (by omega)
          have HB6 := hidep (ptw HBW.out hb6)
          clear hb6 hEq
          go_wp2
          go_ret2
          exact ⟨_, _, x, _, rfl, HI.out, HZ6.out, HB6.out⟩
        · have HLs : Hid (msum z < msum x) := by
            have := HRL.out _ HM.out (fun h => hfix (HRz.out.trans h))
            rw [← HRz.out] at this; exact this
          have HO2 : Hid (∀ j, j < k + 1 → ¬ rnd arcs p false (rnds arcs p false j first) = rnds arcs p false j first) := by
            intro j hj h
            by_cases e : j = k
            · subst e
              rw [← HX.out, ← HRz.out] at h
              exact hfix h
            · exact HOn.out j (by omega) h
          have HX2 : Hid (z = rnds arcs p false (k + 1) first) := by show _ = _; rw [HRz.out, HX.out]; rfl
          have hd : decide (z = x) = false := by simpa using hfix
          rw [hd] at hEq
          clear hfix hd hZ hb
          go_wp2_with fail
          refine hEq.mono ?_
          rintro e w6 ⟨rfl, hb6⟩
          have HZ6 : Hid (Zo w6 (w.heap.size + 1) g2 n c2 z) := owns_base2 (HZZ.out.below hb6) (by omega)
          have HB6 : Hid (Below (w.heap.size + 1) (w.alloc (.cells #[.slice ao na ca, .slice bo arcs.length cb] 25)) w6) := HB.out.trans ((ptw HBB.out hb6).mono (by omega))
          clear hb6 hEq
          go_wp2
          go_roundw
          case rel => exact ⟨k + 1, g2, c2, z, rfl, by go_num, HX2.out, HO2.out, HMz.out, by have := HLs.out; have := HMx.out; omega, HZ6.out, HB6.out⟩
          case measure =>
            show msum (rdL w6 g2 n) < msum (rdL wo g1 n)
            rw [Zo.rd HZ6.out, Zo.rd HZx.out]
            exact HLs.out

end Go.Proofs.Ytnopdnajlbaccab
