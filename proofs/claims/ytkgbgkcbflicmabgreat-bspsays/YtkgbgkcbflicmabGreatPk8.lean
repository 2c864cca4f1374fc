/-
  Several texts in one.
-/
import Derived.Shelf.Abstract
import Derived.Laws.AppendOwnNone
import Derived.Maps.AppendAt
import Derived.Test.YtkgbgkcbflicmabGreatPk7
namespace Go.Proofs.YtkgbgkcbflicmabGreat.Q
open Sim (Seq.prog)
open Go.RowKit
structure HeldIn (w0 : World) where
 w : World
 h : Below w0.heap.size w0 w
theorem wp_region_held {P : Program} (w0 : World) {id : Nat} {Q : Exit -> Act -> World -> Prop} {a : Act} {w : World} {l : List Oper} (h0 : Below w0.heap.size w0 w) (hm : P.follows .mixedOrders = true) (hB : Region.lexB .any l.toArray = true)
   (h : wpQuiet P l.toArray (fun w' => ∃ s : HeldIn w0, w' = s.w) (fun a' => ∀ w', (∃ s : HeldIn w0, w' = s.w) -> Q .normal a' w') l a) : (Code.region id l.toArray true).wp P Q a w :=
 wp_region_quiet (C := fun w' => ∃ s : HeldIn w0, w' = s.w) hm hB ⟨⟨_, h0.drew⟩, rfl⟩ (by simpa using h)
theorem held_of {P : Program} {f : FuncId} {args : Array Value} {w0 : World} {s : HeldIn w0} {v : Value}
   (h : Calls P f args s.w fun e w' => e = .returned v /\ Below s.w.heap.size s.w w') : Calls P f args s.w fun e w'' => e = .returned v /\ ∃ s' : HeldIn w0, w'' = s'.w :=
 h.mono fun _ w' ⟨he, hb⟩ => ⟨he, ⟨w', s.h.trans (hb.mono s.h.size)⟩, rfl⟩
theorem held_same {P : Program} {f : FuncId} {args : Array Value} {w0 : World} {s : HeldIn w0} {v : Value}
   (h : Calls P f args s.w fun e w' => e = .returned v /\ w' = s.w) : Calls P f args s.w fun e w'' => e = .returned v /\ ∃ s' : HeldIn w0, w'' = s'.w :=
 h.mono fun _ _ ⟨he, hb⟩ => ⟨he, s, hb⟩
theorem wp_region_held_back {P : Program} (w0 : World) {id : Nat} {full : Array Oper} {Q : Exit -> Act -> World -> Prop} {a : Act} {w : World} (h0 : Below w0.heap.size w0 w) (hm : P.follows .mixedOrders = true) (hn : 0 < full.size) (hB : Region.lexB .any full.pop = true) (hf : fwdB full.pop = true) (hl : lastB full.pop full.back! = true)
   (h : wpQuiet P full.pop (fun w' => ∃ s : HeldIn w0, w' = s.w) (fun a' => ∀ w', (∃ s : HeldIn w0, w' = s.w) -> BackQ P full.back! Q .normal a' w') full.pop.toList a) : (Code.region id full true).wp P Q a w := by
 have e : full = full.pop.push full.back! := (Array.eq_push_pop_back!_of_size_ne_zero (by omega))
 generalize full.pop = ops at *
 generalize full.back! = st at *
 subst e
 simp only [Region.lexB, Bool.and_eq_true] at hB
 refine wp_region_any hm ?_
 have h1 : wpAny P .any ops (BackQ P st Q) ops.size (Array.replicate ops.size false) a w.drew := by
   refine wpAny_of_quiet (C := fun w' => ∃ s : HeldIn w0, w' = s.w) (Q := fun a' => ∀ w', (∃ s : HeldIn w0, w' = s.w) -> BackQ P st Q .normal a' w') (fun _ w' hw' h => h w' hw') _ _ _ _ ⟨⟨_, h0.drew⟩, rfl⟩ ?_
   have := wpAnyQ_lex (C := fun w' => ∃ s : HeldIn w0, w' = s.w) (md := .any) hB.1 ops.toList 0 (Array.replicate ops.size false) a (by simp) (by simpa using hB.2) h
   simpa using this
 have h2 := pop_sound hf hl ops.size _ a w.drew (by simp) (by
   intro j o hj hlj
   have : j < ops.size := (Array.getElem?_eq_some_iff.1 hj).1
   simp [this] at hlj) h1
 have e1 : (Array.replicate ops.size false).push false = Array.replicate (ops.push st).size false := by
   apply Array.ext
   · simp
   · intro k h1 h2
     simp [Array.getElem_push]
 rw [e1] at h2
 have e2 : (ops.push st).size = ops.size + 1 := by simp
 rw [e2] at h2 ⊢
 exact h2
theorem gby_set (w : World) (b j : Nat) (u : Value) : w.grownBy (w.setCell ⟨b, j, none⟩ u) (some b) :=
 ⟨rfl, rfl, rfl, by simp [World.setCell], fun k _ hk => Below.heap_setCell _ _ _ _ (fun e => hk (by simp [e]))⟩
abbrev Zo (w : World) (base gb n cap : Nat) (x : List Int) : Prop := w.ownsRow base 3 1 (.slice (some ⟨gb, 0, none⟩) n cap) n (x.map (Value.int .i64))
theorem Zo.len {w : World} {base gb n cap : Nat} {x : List Int} (h : Zo w base gb n cap x) : x.length = n := by have := h.1; simpa using this
theorem Zo.cell {w : World} {base gb n cap : Nat} {x : List Int} (h : Zo w base gb n cap x) {k : Nat} (hk : k < n) : w.cell? ⟨gb, k, none⟩ = some (.int .i64 (x.getD k 0)) := by
 have hl := h.len
 rw [World.ownsRow.cellAt h k (by omega), List.getElem?_map, List.getD_eq_getElem?_getD, List.getElem?_eq_getElem (by omega)]; rfl
theorem Zo.set {w : World} {base gb n cap : Nat} {x : List Int} (h : Zo w base gb n cap x) (k : Nat) (v : Int) : Zo (w.setCell ⟨gb, k, none⟩ (.int .i64 v)) base gb n cap (x.set k v) := by
 have := (World.ownsRow.stored h k (.int .i64 v)).1
 rw [<- List.map_set] at this
 exact this
theorem Zo.below {w w' : World} {base gb n cap : Nat} {x : List Int} (h : Zo w base gb n cap x) (hb : Below w.heap.size w w') : Zo w' base gb n cap x := ownsRow_below h hb
def rdL (w : World) (gb n : Nat) : List Int := (List.range n).map fun j => intOf ((w.cell? ⟨gb, j, none⟩).getD (.int .i64 0))
theorem Zo.rd {w : World} {base gb n cap : Nat} {x : List Int} (h : Zo w base gb n cap x) : rdL w gb n = x := by
 have hl := h.len
 apply List.ext_getElem (by simp [rdL, hl])
 intro i h1 h2
 simp only [rdL, List.getElem_map, List.getElem_range]
 rw [h.cell (k := i) (by omega), List.getD_eq_getElem?_getD, List.getElem?_eq_getElem h2]; rfl
theorem take_succI (l : List Int) (k : Nat) (h : k < l.length) : l.take (k + 1) = l.take k ++ [l[k]] := List.take_succ_eq_append_getElem h
set_option maxHeartbeats 2000000 in
theorem EqualI_any (ao bo : Option Addr) (ca cb : Nat) (a b : List Int) (w : World) (hA : ZsAt w ao a) (hB : ZsAt w bo b) (hl : a.length <= 9223372036854775807) :
   Calls Seq.prog 41 #[.slice ao a.length ca, .slice bo b.length cb] w fun e w' => e = .returned (.bool (decide (a = b))) /\ Below w.heap.size w w' := by
 by_cases hlen : a.length = b.length
 · have HLN : Hid (a.length = b.length) := hlen
   rw [<- hlen]
   have hne : ((a.length : Int) != (a.length : Int)) = false := by simp
   clear hlen
   go_enter Seq.func41, Tryz.ntmps41
   go_wp2
   go_loopw [5, 13] (fun _ i wr => ∃ k : Nat, k <= a.length /\ i = .int .i64 k /\ a.take k = b.take k /\ Below w.heap.size w wr) (fun _ i _ => a.length - (intOf i).toNat)
   case atStart => exact ⟨0, Nat.zero_le _, rfl, rfl, Below.refl _ _⟩
   case round =>
     obtain ⟨k, hk, rfl, hh, hb⟩ := hrel
     have HH : Hid (a.take k = b.take k) := hh
     clear hh
     by_cases hlt : k < a.length
     · have hlt' : k < b.length := by have := HLN.out; omega
       rcases hA.below hb with h0 | ⟨b1, o1, rfl, hb1, hc1⟩
       · subst h0; simp at hlt
       rcases hB.below hb with h0 | ⟨b2, o2, rfl, hb2, hc2⟩
       · subst h0; simp at hlt'
       have c0 := hc1 k hlt
       have d0 := hc2 k hlt'
       rw [List.getD_eq_getElem?_getD, List.getElem?_eq_getElem hlt, Option.getD_some] at c0
       rw [List.getD_eq_getElem?_getD, List.getElem?_eq_getElem hlt', Option.getD_some] at d0
       clear hc1 hc2 hA hB
       by_cases g : a[k] = b[k]
       · have HC : Hid (a.take (k + 1) = b.take (k + 1)) := by show _ = _; rw [take_succI a k hlt, take_succI b k hlt', HH.out, g]
         have e1 : (a[k] != b[k]) = false := by simpa using g
         clear g
         go_wp2
         go_quiet (fail)
         go_wp2
         go_roundw
         case rel => exact ⟨k + 1, by omega, by go_num, HC.out, below_drewN hb _⟩
         case measure => simp [intOf]; omega
       · have HC : Hid (decide (a = b) = false) := by
           show _ = _
           rw [decide_eq_false_iff_not]
           intro h; subst h; exact g rfl
         have e1 : (a[k] != b[k]) = true := by simpa using g
         clear g
         go_wp2
         go_quiet (fail)
         go_wp2
         go_ret
         exact ⟨retp_bool HC.out.symm, below_drewN hb _⟩
     · have hkl : k = a.length := by omega
       have HC : Hid (decide (a = b) = true) := by
         show _ = _
         have := HH.out
         rw [hkl, List.take_length, HLN.out, List.take_length] at this
         rw [this]; simp
       go_wp2
       go_ret
       exact ⟨retp_bool HC.out.symm, hb⟩
 · have hne : ((a.length : Int) != (b.length : Int)) = true := by simp; omega
   have HC : Hid (decide (a = b) = false) := by
     show _ = _
     rw [decide_eq_false_iff_not]
     intro h; subst h; exact hlen rfl
   clear hlen
   go_enter Seq.func41, Tryz.ntmps41
   go_wp2
   go_ret
   exact ⟨retp_bool HC.out.symm, Below.refl _ _⟩
theorem arc_parts {arcs : List Ac} {n k : Nat} (hE : EndsIn n arcs) (hk : k < arcs.length) : ∃ (A B : Nat), A < n /\ B < n /\ arcs[k].1 = (A : Int) /\ arcs[k].2.1 = (B : Int) := by
 have h := hE _ (List.getElem_mem hk)
 exact ⟨arcs[k].1.toNat, arcs[k].2.1.toNat, by omega, by omega, by omega, by omega⟩
def blkOf : Value -> Nat
 | .slice (some a) _ _ => a.block
 | _ => 0
structure RoundsIs (arcs : List Ac) (p : Ac -> Int) (back : Bool) (first x : List Int) (k : Nat) : Prop where
 is : x = rnds arcs p back k first
 stop : rnd arcs p back x = x
 on : ∀ j, j < k -> ¬ rnd arcs p back (rnds arcs p back j first) = rnds arcs p back j first
theorem zsAt_of_zo {w : World} {base gb n cap : Nat} {x : List Int} (h : Zo w base gb n cap x) : ZsAt w (some ⟨gb, 0, none⟩) x := by
 have hl := h.len
 refine .inr ⟨gb, 0, rfl, (World.ownsRow.lt h gb rfl).2, fun j hj => ?_⟩
 rw [Nat.zero_add]; exact h.cell (by omega)
theorem zo_news {w : World} {base gb n cap : Nat} {x : List Int} (h : Zo w base gb n cap x) : ∀ j u, (x.map (Value.int .i64))[j]? = some u -> w.cell? ((⟨gb, 0, none⟩ : Addr).add j) = some u := World.ownsRow.cells h rfl
theorem map_one (x : List Int) : ∀ u ∈ x.map (Value.int .i64), u.oneCell' = true := by intro u hu; rw [List.mem_map] at hu; obtain ⟨z, _, rfl⟩ := hu; rfl
theorem zo_made {w : World} {base n : Nat} {v : Value} {x : List Int} (h : w.ownsRow base 3 1 v n (x.map (Value.int .i64))) (hn : 0 < n) : ∃ g c, v = .slice (some ⟨g, 0, none⟩) n c /\ Zo w base g n c x := by
 rcases h.2 with ⟨_, h0⟩ | ⟨g, cap, cur, rfl, _⟩
 · omega
 · exact ⟨g, cap, rfl, h⟩
theorem min_if (a b : Int) : (if b < a then b else a) = min a b := by
 by_cases h : b < a
 · rw [if_pos h]; omega
 · rw [if_neg h]; omega
theorem rel1_parts (p : Ac -> Int) (back : Bool) (x z : List Int) (a : Ac) {A B : Nat} (eA : a.1 = (A : Int)) (eB : a.2.1 = (B : Int)) :
   rel1 p back x z a = if back = true then (z.set B (min (z.getD B 0) (x.getD A 0 + p a))).set A (min ((z.set B (min (z.getD B 0) (x.getD A 0 + p a))).getD A 0) (x.getD B 0 + p a)) else z.set B (min (z.getD B 0) (x.getD A 0 + p a)) := by
 unfold rel1 vat; rw [eA, eB]; rfl
set_option maxRecDepth 100000 in
set_option maxHeartbeats 8000000 in
theorem Rounds_false (g : Nat) (caps : Array Value) (p : Ac -> Int) (eg : ∀ args w, (callFunc g args).run Seq.prog w = .ok (.enter g args) w) (ao bo : Option Addr) (ca cb fb fc na : Nat) (first : List Int) (arcs : List Ac) (base0 : Nat) (w : World)
   (hFi : Zo w base0 fb first.length fc first) (hR : PcAt w bo arcs) (F : Fine first (ways false arcs) p) (he : false = true -> Even p) (h0 : 0 < first.length) (h12 : first.length <= 12) (h30 : arcs.length <= 30)
   (hf : ∀ a ∈ arcs, ∀ wq, Below w.heap.size w wq -> Calls Seq.prog g (#[.agg #[.int .i64 a.1, .int .i64 a.2.1, .int .i64 a.2.2]] ++ caps) wq fun e w' => e = .returned (.int .i64 (p a)) /\ Below wq.heap.size wq w') :
   Calls Seq.prog 25 #[.agg #[.slice ao na ca, .slice bo arcs.length cb], .slice (some ⟨fb, 0, none⟩) first.length fc, .func (.func g) #[] caps, .bool false] w fun e w' => ∃ gb c x k, e = .returned (.tuple #[.slice (some ⟨gb, 0, none⟩) first.length c, .int .i64 (k : Nat)]) /\ RoundsIs arcs p false first x k /\ Zo w' w.heap.size gb first.length c x /\ Below w.heap.size w w' := by
 obtain ⟨i0, hi, hz0, hz1, hz2⟩ := info_parts Tryz.infoInt
 have HF := hidep hf
 have HFine := hidep F
 have HRR : Hid (∀ x, Mid first (ways false arcs) p x -> Mid first (ways false arcs) p (rnd arcs p false x)) := fun x hx => (rn_round F he hx).mid
 have HRL : Hid (∀ x, Mid first (ways false arcs) p x -> ¬ rnd arcs p false x = x -> msum (rnd arcs p false x) < msum x) := fun x hx h => rnd_less F he hx h
 have HEn : Hid (EndsIn first.length arcs) := fun a ha => F.en a (mem_ways ha).1
 have HPl : Hid (∀ a ∈ arcs, 0 <= p a /\ p a <= 1000) := fun a ha => F.pl a (mem_ways ha).1
 have HMs : Hid (msum first <= 20000000000000) := by
   have := msum_bound first (fun z hz => by obtain ⟨i, hi, rfl⟩ := List.getElem_of_mem hz; have := F.hi i hi; rw [List.getD_eq_getElem?_getD, List.getElem?_eq_getElem hi] at this; exact this)
   show _ <= _
   omega
 have hnews := hidep (zo_news hFi)
 have HFl := hidep (World.ownsRow.lt hFi fb rfl).2
 clear hf F he hFi
 obtain ⟨n, hn⟩ : ∃ n, n = first.length := ⟨_, rfl⟩
 rw [<- hn]
 have HN := hidep hn
 have h0' : 0 < n := by omega
 have h12' : n <= 12 := by omega
 clear hn h0 h12
 have HD1 : Hid ((first.map (Value.int .i64)).length = n * 1) := by show _ = _; rw [List.length_map, <- HN.out, Nat.mul_one]
 have HD2 : Hid (∀ o j u, (first.map (Value.int .i64))[j]? = some u -> (w.alloc o).cell? ((⟨fb, 0, none⟩ : Addr).add j) = some u) := by
   intro o j u hu
   have h := hnews.out j u hu
   rw [Go.WideShapes.add_plain] at h ⊢
   rw [(pal w _).cell (p := ⟨fb, 0 + j, none⟩) HFl.out]
   exact h
 have HD3 := hidep (map_one first)
 have HD6 : Hid (∀ o, w.heap.size + 1 <= (w.alloc o).heap.size) := fun o => by simp
 go_enter Seq.func25, Tryz.ntmps25
 go_wp2_with (at_builtin; refine wpList_append_own _ rfl _ _ 43 rfl (w.heap.size + 1) 3 i0 (.int .i64 0) 1 8 ((Seq.pu 43).trans Tryz.underlying43) hi hz0 hz1 hz2 rfl (by decide) _ 0 [] rfl (World.ownsRow_nil _ _ _ _) ⟨fb, 0, none⟩ n fc (first.map (Value.int .i64)) rfl HD1.out (HD2.out _) HD3.out (by unfold maxLen; omega) (by omega) (HD6.out _) ?_)
 intro v1 w1 hown1 hgrow1 _
 obtain ⟨g1, c1, rfl, hZ1⟩ := zo_made hown1 h0'
 have hb1 : Below (w.heap.size + 1) (w.alloc (.cells #[.slice ao na ca, .slice bo arcs.length cb] 49)) w1 := (Below.refl _ _).grown hgrow1 (by simp) (fun k hk => by cases hk)
 have HZ1 := hidep hZ1
 have HB1 := hidep hb1
 clear hown1 hgrow1 hZ1 hb1 hnews HD1 HD2 HD3 HD6
 go_wp2
 go_loopw [10, 11, 12, 13, 14] (fun vn vk _ _ _ wr => ∃ (k g1 c1 : Nat) (x : List Int), vn = .slice (some ⟨g1, 0, none⟩) n c1 /\ vk = .int .i64 k /\ x = rnds arcs p false k first /\ (∀ j, j < k -> ¬ rnd arcs p false (rnds arcs p false j first) = rnds arcs p false j first) /\ Mid first (ways false arcs) p x /\ k + msum x <= msum first /\ Zo wr (w.heap.size + 1) g1 n c1 x /\ Below (w.heap.size + 1) (w.alloc (.cells #[.slice ao na ca, .slice bo arcs.length cb] 49)) wr) (fun vn _ _ _ _ wr => msum (rdL wr (blkOf vn) n))
 case atStart => exact ⟨0, g1, c1, first, rfl, rfl, rfl, (fun j h => by omega), mid_start _ _ _, by omega, HZ1.out, HB1.out⟩
 case round =>
   obtain ⟨k, g1, c1, x, rfl, rfl, hx, hon, hM, hms, hZ, hb⟩ := hrel
   have HX := hidep hx
   have HOn := hidep hon
   have HM := hidep hM
   have HMx := hidep hms
   have HZx := hidep hZ
   have HB := hidep hb
   have hxl := hZ.len
   have hz := hb.size
   simp only [World.size_alloc] at hz
   have hkb : (k : Int) <= 20000000000000 := by have := HMs.out; have := HMx.out; omega
   clear hx hon hM hms
   have hn2 := hidep (zo_news hZ)
   have hg1 := World.ownsRow.lt hZ g1 rfl
   clear hZ hb
   obtain ⟨wo, rfl⟩ : ∃ x, x = wr := ⟨_, rfl⟩
   have HE1 : Hid ((x.map (Value.int .i64)).length = n * 1) := by show _ = _; rw [List.length_map, hxl, Nat.mul_one]
   have HE3 := hidep (map_one x)
   go_wp2_with (at_builtin; refine wpList_append_own _ rfl _ _ 43 rfl wo.heap.size 3 i0 (.int .i64 0) 1 8 ((Seq.pu 43).trans Tryz.underlying43) hi hz0 hz1 hz2 rfl (by decide) _ 0 [] rfl (World.ownsRow_nil _ _ _ _) ⟨g1, 0, none⟩ n c1 (x.map (Value.int .i64)) rfl HE1.out hn2.out HE3.out (by unfold maxLen; omega) (by omega) (Nat.le_refl _) ?_)
   intro v2 w2 hown2 hgrow2 _
   obtain ⟨g2, c2, rfl, hZ2⟩ := zo_made hown2 h0'
   have hg2 := (World.ownsRow.lt hZ2 g2 rfl).1
   have HZ2 := hidep hZ2
   have HB2 : Hid (Below wo.heap.size wo w2) := (Below.refl _ _).grown hgrow2 (Nat.le_refl _) (fun k hk => by cases hk)
   clear hown2 hgrow2 hZ2 hn2 HE1 HE3
   go_wp2
   go_loopw [13, 14] (fun vi _ wr => ∃ (i : Nat) (z : List Int), i <= arcs.length /\ vi = .int .i64 i /\ z = (arcs.take i).foldl (rel1 p false x) x /\ Zo wr wo.heap.size g2 n c2 z /\ Below wo.heap.size wo wr) (fun vi _ _ => arcs.length - (intOf vi).toNat)
   case atStart => exact ⟨0, x, Nat.zero_le _, rfl, by rw [List.take_zero]; rfl, HZ2.out, HB2.out⟩
   case round =>
     obtain ⟨i, z, hi', rfl, hz', hZ, hb⟩ := hrel
     have HZz := hidep hz'
     have HZZ := hidep hZ
     have HBB := hidep hb
     have hzr := hb.size
     have q1 : wr.cell? ⟨w.heap.size, 1, none⟩ = some (.slice bo arcs.length cb) := by
       rw [hb.cell (p := ⟨w.heap.size, 1, none⟩) (by show w.heap.size < _; omega), HB.out.cell (p := ⟨w.heap.size, 1, none⟩) (by simp)]; simp
     have hlw : w.heap.size < wr.heap.size := by omega
     have HBW : Hid (Below w.heap.size w wr) := (((pal w _).trans (HB.out.mono (by omega)))).trans (hb.mono (by omega))
     clear hz'
     by_cases hlt : i < arcs.length
     · rcases hR.below HBW.out with h0 | ⟨b, off, rfl, hbr, hc⟩
       · subst h0; simp at hlt
       obtain ⟨e0, e1, e2⟩ := PcAt.at3 hlt hc
       obtain ⟨A, B, hA, hB, eA, eB⟩ := arc_parts HEn.out hlt
       rw [<- HN.out] at hA hB
       have hm : arcs[i] ∈ arcs := List.getElem_mem hlt
       have HCL : Hid (∀ W, Below wo.heap.size wo W -> Calls Seq.prog g (#[.agg #[.int .i64 (A : Int), .int .i64 (B : Int), .int .i64 arcs[i].2.2]] ++ caps) W fun e w' => e = .returned (.int .i64 (p arcs[i])) /\ Below W.heap.size W w') := by
         intro W hW
         have := HF.out _ hm W (((pal w _).trans (HB.out.mono (by omega))).trans (hW.mono (by omega)))
         rw [eA, eB] at this
         exact this
       have hp := HPl.out _ hm
       have b1 := HM.out.lo HFine.out A (by rw [<- HN.out]; omega)
       have b2 := HM.out.hi HFine.out A (by rw [<- HN.out]; omega)
       have b3 := HM.out.lo HFine.out B (by rw [<- HN.out]; omega)
       have b4 := HM.out.hi HFine.out B (by rw [<- HN.out]; omega)
       have HFT : Hid ((arcs.take (i + 1)).foldl (rel1 p false x) x = rel1 p false x z arcs[i]) := by show _ = _; rw [fold_take _ _ _ _ _ hlt, HZz.out]
       rw [rel1_parts p false x z arcs[i] eA eB] at HFT
       have zA := hZ.cell hA
       have zB := hZ.cell hB
       have xA : wr.cell? ⟨g1, A, none⟩ = some (.int .i64 (x.getD A 0)) := by rw [hb.cell (p := ⟨g1, A, none⟩) hg1.2]; exact HZx.out.cell hA
       have xB : wr.cell? ⟨g1, B, none⟩ = some (.int .i64 (x.getD B 0)) := by rw [hb.cell (p := ⟨g1, B, none⟩) hg1.2]; exact HZx.out.cell hB
       have hgl := World.ownsRow.lt hZ g2 rfl
       have HG : Hid (g1 < wr.heap.size) := by show _ < _; omega
       rw [eA] at e0
       rw [eB] at e1
       clear hc eA eB hm hR
       generalize p arcs[i] = pa at *
       generalize arcs[i].2.2 = ac at *
       generalize x.getD A 0 = tA at *
       generalize x.getD B 0 = tB at *
       generalize hsB : z.getD B 0 = sB at *
       clear hsB
       have hiA : (A : Int) < (n : Int) := by omega
       have hiB : (B : Int) < (n : Int) := by omega
       have hw1 : IntKind.i64.wrap (tA + pa) = tA + pa := wrap_small _ (by omega) (by omega)
       have hw2 : IntKind.i64.wrap (tB + pa) = tB + pa := wrap_small _ (by omega) (by omega)
       have hne2 : Nonempty (HeldIn (wr.alloc (.cells #[.int .i64 (A : Int), .int .i64 (B : Int), .int .i64 ac] 72))) := ⟨⟨_, Below.refl _ _⟩⟩
       have f0 : ∀ s : HeldIn (wr.alloc (.cells #[.int .i64 (A : Int), .int .i64 (B : Int), .int .i64 ac] 72)), s.w.cell? ⟨wr.heap.size, 0, none⟩ = some (.int .i64 A) := fun s => by rw [s.h.cell (p := ⟨wr.heap.size, 0, none⟩) (by simp)]; simp
       have f1 : ∀ s : HeldIn (wr.alloc (.cells #[.int .i64 (A : Int), .int .i64 (B : Int), .int .i64 ac] 72)), s.w.cell? ⟨wr.heap.size, 1, none⟩ = some (.int .i64 B) := fun s => by rw [s.h.cell (p := ⟨wr.heap.size, 1, none⟩) (by simp)]; simp
       have f2 : ∀ s : HeldIn (wr.alloc (.cells #[.int .i64 (A : Int), .int .i64 (B : Int), .int .i64 ac] 72)), s.w.cell? ⟨wr.heap.size, 2, none⟩ = some (.int .i64 ac) := fun s => by rw [s.h.cell (p := ⟨wr.heap.size, 2, none⟩) (by simp)]; simp
       have f3 : ∀ s : HeldIn (wr.alloc (.cells #[.int .i64 (A : Int), .int .i64 (B : Int), .int .i64 ac] 72)), s.w.cell? ⟨g1, A, none⟩ = some (.int .i64 tA) := fun s => by rw [s.h.cell (p := ⟨g1, A, none⟩) (by simp; have := HG.out; omega), (pal wr _).cell (p := ⟨g1, A, none⟩) HG.out]; exact xA
       have f4 : ∀ s : HeldIn (wr.alloc (.cells #[.int .i64 (A : Int), .int .i64 (B : Int), .int .i64 ac] 72)), s.w.cell? ⟨g2, B, none⟩ = some (.int .i64 sB) := fun s => by rw [s.h.cell (p := ⟨g2, B, none⟩) (by simp; omega), (pal wr _).cell (p := ⟨g2, B, none⟩) hgl.2]; exact zB
       have HQ : Hid (∀ w1, Below (wr.alloc (.cells #[.int .i64 (A : Int), .int .i64 (B : Int), .int .i64 ac] 72)).heap.size (wr.alloc (.cells #[.int .i64 (A : Int), .int .i64 (B : Int), .int .i64 ac] 72)) w1 -> Below wr.heap.size wr w1 /\ Zo w1 wo.heap.size g2 n c2 z /\ wr.heap.size < w1.heap.size) := by
         intro w1 h1
         have h2 := ptw (pal wr _) h1
         have hz := h1.size
         simp only [World.size_alloc] at hz
         exact ⟨h2, HZZ.out.below h2, by omega⟩
       have hcl : ∀ s : HeldIn (wr.alloc (.cells #[.int .i64 (A : Int), .int .i64 (B : Int), .int .i64 ac] 72)), Calls Seq.prog g (#[.agg #[.int .i64 (A : Int), .int .i64 (B : Int), .int .i64 ac]] ++ caps) s.w fun e w' => e = .returned (.int .i64 pa) /\ Below s.w.heap.size s.w w' := fun s => HCL.out _ (ptw HBB.out (ptw (pal wr _) s.h))
       clear hZ hb
       go_wp2_with fail
       refine wp_region_held_back _ (Below.refl _ _) (by kernel_rfl) (by simp) (by kernel_rfl) (by kernel_rfl) (by kernel_rfl) ?_
       simp only [List.pop_toArray, List.dropLast, List.back!_toArray, List.getLast!]
       repeat (go_big_quiet_step ((go_at_fn g; exact held_of (hcl _))))
       refine wpQuiet_nil ?_
       rintro _ ⟨s, rfl⟩
       refine back_last (fun K hK => ?_)
       have k0 := f0 s
       have k1 := f1 s
       have k2 := f2 s
       have k4 := f4 s
       obtain ⟨hb4, hZ4, hl4⟩ := HQ.out _ s.h
       have fz := World.ownsRow.frozenAt hZ4 B
       have hgl4 := (World.ownsRow.lt hZ4 g2 rfl).2
       clear f0 f1 f2 f3 f4 hne2 HQ hcl
       generalize s.w = w4 at *
       clear s
       go_simp
       refine hK.out _ _ ?_
       clear hK K
       have hmin := min_if sB (tA + pa)
       rw [<- hmin] at HFT
       generalize (if tA + pa < sB then tA + pa else sB) = m1 at HFT ⊢
       clear hmin
       have G5 := gby_set w4 g2 B (.int .i64 m1)
       have hne5 : some wr.heap.size ≠ some g2 := fun e => by have := Option.some.inj e; omega
       have j0 := (G5.cell_far ⟨wr.heap.size, 0, none⟩ hl4 hne5).trans k0
       have j1 := (G5.cell_far ⟨wr.heap.size, 1, none⟩ hl4 hne5).trans k1
       have j2 := (G5.cell_far ⟨wr.heap.size, 2, none⟩ hl4 hne5).trans k2
       have jB : (w4.setCell ⟨g2, B, none⟩ (.int .i64 m1)).cell? ⟨g1, B, none⟩ = some (.int .i64 tB) := by
         rw [G5.cell_far ⟨g1, B, none⟩ (Nat.lt_of_lt_of_le HG.out hb4.size) (show some g1 ≠ some g2 from fun e => by have := Option.some.inj e; omega), hb4.cell (p := ⟨g1, B, none⟩) HG.out]; exact xB
       have hZ5 := hZ4.set B m1
       have jA := hZ5.cell hA
       have hl5 : wr.heap.size < (w4.setCell ⟨g2, B, none⟩ (.int .i64 m1)).heap.size := Nat.lt_of_lt_of_le hl4 G5.size
       have HB5 : Hid (Below wo.heap.size wo (w4.setCell ⟨g2, B, none⟩ (.int .i64 m1))) := (ptw HBB.out hb4).setCell hg2 _
       have HW5 : Hid (∀ W, Below (w4.setCell ⟨g2, B, none⟩ (.int .i64 m1)).heap.size (w4.setCell ⟨g2, B, none⟩ (.int .i64 m1)) W -> Calls Seq.prog g (#[.agg #[.int .i64 (A : Int), .int .i64 (B : Int), .int .i64 ac]] ++ caps) W fun e w' => e = .returned (.int .i64 pa) /\ Below W.heap.size W w') := by
         intro W hW
         exact HCL.out W ((ptw HB5.out hW))
       clear k0 k1 k2 k4 fz hgl4 hZ4 hb4 hl4 HCL xA xB zA zB
       generalize w4.setCell ⟨g2, B, none⟩ (.int .i64 m1) = w5 at *
       simp only [Bool.false_eq_true, if_false] at HFT
       clear jA j0 j1 j2 jB HW5
       have HZ5 := hidep hZ5
       clear hZ5
       go_wp2
       go_roundw
       case rel => exact ⟨i + 1, _, by omega, by go_num, HFT.out.symm, HZ5.out, HB5.out⟩
       case measure => simp [intOf]; omega
     · have hil : i = arcs.length := by omega
       have HRz : Hid (z = rnd arcs p false x) := by show _ = _; rw [HZz.out, hil, List.take_length]; rfl
       have hEq := EqualI_any (some ⟨g2, 0, none⟩) (some ⟨g1, 0, none⟩) c2 c1 z x wr (zsAt_of_zo hZ) (zsAt_of_zo (HZx.out.below hb)) (by rw [hZ.len]; omega)
       rw [hZ.len, hxl] at hEq
       have HMz : Hid (Mid first (ways false arcs) p z) := by
         show Mid _ _ _ _
         rw [HRz.out]; exact HRR.out _ HM.out
       by_cases hfix : z = x
       · have HI : Hid (RoundsIs arcs p false first x k) := ⟨HX.out, by rw [<- HRz.out]; exact hfix, HOn.out⟩
         have hd : decide (z = x) = true := by simpa using hfix
         rw [hd] at hEq
         clear hfix hd hZ hb
         go_wp2_with fail
         refine hEq.mono ?_
         rintro e w6 ⟨rfl, hb6⟩
         have HZ6 : Hid (Zo w6 w.heap.size g1 n c1 x) := owns_base2 ((HZx.out.below HBB.out).below hb6) (by omega)
         have HB6 := hidep (ptw HBW.out hb6)
         clear hb6 hEq
         go_wp2
         go_ret2
         exact ⟨_, _, x, _, rfl, HI.out, HZ6.out, HB6.out⟩
       · have HLs : Hid (msum z < msum x) := by
           have := HRL.out _ HM.out (fun h => hfix (HRz.out.trans h))
           rw [<- HRz.out] at this; exact this
         have HO2 : Hid (∀ j, j < k + 1 -> ¬ rnd arcs p false (rnds arcs p false j first) = rnds arcs p false j first) := by
           intro j hj h
           by_cases e : j = k
           · subst e
             rw [<- HX.out, <- HRz.out] at h
             exact hfix h
           · exact HOn.out j (by omega) h
         have HX2 : Hid (z = rnds arcs p false (k + 1) first) := by show _ = _; rw [HRz.out, HX.out]; rfl
         have hd : decide (z = x) = false := by simpa using hfix
         rw [hd] at hEq
         clear hfix hd hZ hb
         go_wp2_with fail
         refine hEq.mono ?_
         rintro e w6 ⟨rfl, hb6⟩
         have HZ6 : Hid (Zo w6 (w.heap.size + 1) g2 n c2 z) := owns_base2 (HZZ.out.below hb6) (by omega)
         have HB6 : Hid (Below (w.heap.size + 1) (w.alloc (.cells #[.slice ao na ca, .slice bo arcs.length cb] 49)) w6) := HB.out.trans ((ptw HBB.out hb6).mono (by omega))
         clear hb6 hEq
         go_wp2
         go_roundw
         case rel => exact ⟨k + 1, g2, c2, z, rfl, by go_num, HX2.out, HO2.out, HMz.out, by have := HLs.out; have := HMx.out; omega, HZ6.out, HB6.out⟩
         case measure =>
           show msum (rdL w6 g2 n) < msum (rdL wo g1 n)
           rw [Zo.rd HZ6.out, Zo.rd HZx.out]
           exact HLs.out
set_option maxRecDepth 100000 in
set_option maxHeartbeats 8000000 in
theorem Rounds_true (g : Nat) (caps : Array Value) (p : Ac -> Int) (eg : ∀ args w, (callFunc g args).run Seq.prog w = .ok (.enter g args) w) (ao bo : Option Addr) (ca cb fb fc na : Nat) (first : List Int) (arcs : List Ac) (base0 : Nat) (w : World)
   (hFi : Zo w base0 fb first.length fc first) (hR : PcAt w bo arcs) (F : Fine first (ways true arcs) p) (he : true = true -> Even p) (h0 : 0 < first.length) (h12 : first.length <= 12) (h30 : arcs.length <= 30)
   (hf : ∀ a ∈ arcs, ∀ wq, Below w.heap.size w wq -> Calls Seq.prog g (#[.agg #[.int .i64 a.1, .int .i64 a.2.1, .int .i64 a.2.2]] ++ caps) wq fun e w' => e = .returned (.int .i64 (p a)) /\ Below wq.heap.size wq w') :
   Calls Seq.prog 25 #[.agg #[.slice ao na ca, .slice bo arcs.length cb], .slice (some ⟨fb, 0, none⟩) first.length fc, .func (.func g) #[] caps, .bool true] w fun e w' => ∃ gb c x k, e = .returned (.tuple #[.slice (some ⟨gb, 0, none⟩) first.length c, .int .i64 (k : Nat)]) /\ RoundsIs arcs p true first x k /\ Zo w' w.heap.size gb first.length c x /\ Below w.heap.size w w' := by
 obtain ⟨i0, hi, hz0, hz1, hz2⟩ := info_parts Tryz.infoInt
 have HF := hidep hf
 have HFine := hidep F
 have HRR : Hid (∀ x, Mid first (ways true arcs) p x -> Mid first (ways true arcs) p (rnd arcs p true x)) := fun x hx => (rn_round F he hx).mid
 have HRL : Hid (∀ x, Mid first (ways true arcs) p x -> ¬ rnd arcs p true x = x -> msum (rnd arcs p true x) < msum x) := fun x hx h => rnd_less F he hx h
 have HEn : Hid (EndsIn first.length arcs) := fun a ha => F.en a (mem_ways ha).1
 have HPl : Hid (∀ a ∈ arcs, 0 <= p a /\ p a <= 1000) := fun a ha => F.pl a (mem_ways ha).1
 have HMs : Hid (msum first <= 20000000000000) := by
   have := msum_bound first (fun z hz => by obtain ⟨i, hi, rfl⟩ := List.getElem_of_mem hz; have := F.hi i hi; rw [List.getD_eq_getElem?_getD, List.getElem?_eq_getElem hi] at this; exact this)
   show _ <= _
   omega
 have hnews := hidep (zo_news hFi)
 have HFl := hidep (World.ownsRow.lt hFi fb rfl).2
 clear hf F he hFi
 obtain ⟨n, hn⟩ : ∃ n, n = first.length := ⟨_, rfl⟩
 rw [<- hn]
 have HN := hidep hn
 have h0' : 0 < n := by omega
 have h12' : n <= 12 := by omega
 clear hn h0 h12
 have HD1 : Hid ((first.map (Value.int .i64)).length = n * 1) := by show _ = _; rw [List.length_map, <- HN.out, Nat.mul_one]
 have HD2 : Hid (∀ o j u, (first.map (Value.int .i64))[j]? = some u -> (w.alloc o).cell? ((⟨fb, 0, none⟩ : Addr).add j) = some u) := by
   intro o j u hu
   have h := hnews.out j u hu
   rw [Go.WideShapes.add_plain] at h ⊢
   rw [(pal w _).cell (p := ⟨fb, 0 + j, none⟩) HFl.out]
   exact h
 have HD3 := hidep (map_one first)
 have HD6 : Hid (∀ o, w.heap.size + 1 <= (w.alloc o).heap.size) := fun o => by simp
 go_enter Seq.func25, Tryz.ntmps25
 go_wp2_with (at_builtin; refine wpList_append_own _ rfl _ _ 43 rfl (w.heap.size + 1) 3 i0 (.int .i64 0) 1 8 ((Seq.pu 43).trans Tryz.underlying43) hi hz0 hz1 hz2 rfl (by decide) _ 0 [] rfl (World.ownsRow_nil _ _ _ _) ⟨fb, 0, none⟩ n fc (first.map (Value.int .i64)) rfl HD1.out (HD2.out _) HD3.out (by unfold maxLen; omega) (by omega) (HD6.out _) ?_)
 intro v1 w1 hown1 hgrow1 _
 obtain ⟨g1, c1, rfl, hZ1⟩ := zo_made hown1 h0'
 have hb1 : Below (w.heap.size + 1) (w.alloc (.cells #[.slice ao na ca, .slice bo arcs.length cb] 49)) w1 := (Below.refl _ _).grown hgrow1 (by simp) (fun k hk => by cases hk)
 have HZ1 := hidep hZ1
 have HB1 := hidep hb1
 clear hown1 hgrow1 hZ1 hb1 hnews HD1 HD2 HD3 HD6
 go_wp2
 go_loopw [10, 11, 12, 13, 14] (fun vn vk _ _ _ wr => ∃ (k g1 c1 : Nat) (x : List Int), vn = .slice (some ⟨g1, 0, none⟩) n c1 /\ vk = .int .i64 k /\ x = rnds arcs p true k first /\ (∀ j, j < k -> ¬ rnd arcs p true (rnds arcs p true j first) = rnds arcs p true j first) /\ Mid first (ways true arcs) p x /\ k + msum x <= msum first /\ Zo wr (w.heap.size + 1) g1 n c1 x /\ Below (w.heap.size + 1) (w.alloc (.cells #[.slice ao na ca, .slice bo arcs.length cb] 49)) wr) (fun vn _ _ _ _ wr => msum (rdL wr (blkOf vn) n))
 case atStart => exact ⟨0, g1, c1, first, rfl, rfl, rfl, (fun j h => by omega), mid_start _ _ _, by omega, HZ1.out, HB1.out⟩
 case round =>
   obtain ⟨k, g1, c1, x, rfl, rfl, hx, hon, hM, hms, hZ, hb⟩ := hrel
   have HX := hidep hx
   have HOn := hidep hon
   have HM := hidep hM
   have HMx := hidep hms
   have HZx := hidep hZ
   have HB := hidep hb
   have hxl := hZ.len
   have hz := hb.size
   simp only [World.size_alloc] at hz
   have hkb : (k : Int) <= 20000000000000 := by have := HMs.out; have := HMx.out; omega
   clear hx hon hM hms
   have hn2 := hidep (zo_news hZ)
   have hg1 := World.ownsRow.lt hZ g1 rfl
   clear hZ hb
   obtain ⟨wo, rfl⟩ : ∃ x, x = wr := ⟨_, rfl⟩
   have HE1 : Hid ((x.map (Value.int .i64)).length = n * 1) := by show _ = _; rw [List.length_map, hxl, Nat.mul_one]
   have HE3 := hidep (map_one x)
   go_wp2_with (at_builtin; refine wpList_append_own _ rfl _ _ 43 rfl wo.heap.size 3 i0 (.int .i64 0) 1 8 ((Seq.pu 43).trans Tryz.underlying43) hi hz0 hz1 hz2 rfl (by decide) _ 0 [] rfl (World.ownsRow_nil _ _ _ _) ⟨g1, 0, none⟩ n c1 (x.map (Value.int .i64)) rfl HE1.out hn2.out HE3.out (by unfold maxLen; omega) (by omega) (Nat.le_refl _) ?_)
   intro v2 w2 hown2 hgrow2 _
   obtain ⟨g2, c2, rfl, hZ2⟩ := zo_made hown2 h0'
   have hg2 := (World.ownsRow.lt hZ2 g2 rfl).1
   have HZ2 := hidep hZ2
   have HB2 : Hid (Below wo.heap.size wo w2) := (Below.refl _ _).grown hgrow2 (Nat.le_refl _) (fun k hk => by cases hk)
   clear hown2 hgrow2 hZ2 hn2 HE1 HE3
   go_wp2
   go_loopw [13, 14] (fun vi _ wr => ∃ (i : Nat) (z : List Int), i <= arcs.length /\ vi = .int .i64 i /\ z = (arcs.take i).foldl (rel1 p true x) x /\ Zo wr wo.heap.size g2 n c2 z /\ Below wo.heap.size wo wr) (fun vi _ _ => arcs.length - (intOf vi).toNat)
   case atStart => exact ⟨0, x, Nat.zero_le _, rfl, by rw [List.take_zero]; rfl, HZ2.out, HB2.out⟩
   case round =>
     obtain ⟨i, z, hi', rfl, hz', hZ, hb⟩ := hrel
     have HZz := hidep hz'
     have HZZ := hidep hZ
     have HBB := hidep hb
     have hzr := hb.size
     have q1 : wr.cell? ⟨w.heap.size, 1, none⟩ = some (.slice bo arcs.length cb) := by
       rw [hb.cell (p := ⟨w.heap.size, 1, none⟩) (by show w.heap.size < _; omega), HB.out.cell (p := ⟨w.heap.size, 1, none⟩) (by simp)]; simp
     have hlw : w.heap.size < wr.heap.size := by omega
     have HBW : Hid (Below w.heap.size w wr) := (((pal w _).trans (HB.out.mono (by omega)))).trans (hb.mono (by omega))
     clear hz'
     by_cases hlt : i < arcs.length
     · rcases hR.below HBW.out with h0 | ⟨b, off, rfl, hbr, hc⟩
       · subst h0; simp at hlt
       obtain ⟨e0, e1, e2⟩ := PcAt.at3 hlt hc
       obtain ⟨A, B, hA, hB, eA, eB⟩ := arc_parts HEn.out hlt
       rw [<- HN.out] at hA hB
       have hm : arcs[i] ∈ arcs := List.getElem_mem hlt
       have HCL : Hid (∀ W, Below wo.heap.size wo W -> Calls Seq.prog g (#[.agg #[.int .i64 (A : Int), .int .i64 (B : Int), .int .i64 arcs[i].2.2]] ++ caps) W fun e w' => e = .returned (.int .i64 (p arcs[i])) /\ Below W.heap.size W w') := by
         intro W hW
         have := HF.out _ hm W (((pal w _).trans (HB.out.mono (by omega))).trans (hW.mono (by omega)))
         rw [eA, eB] at this
         exact this
       have hp := HPl.out _ hm
       have b1 := HM.out.lo HFine.out A (by rw [<- HN.out]; omega)
       have b2 := HM.out.hi HFine.out A (by rw [<- HN.out]; omega)
       have b3 := HM.out.lo HFine.out B (by rw [<- HN.out]; omega)
       have b4 := HM.out.hi HFine.out B (by rw [<- HN.out]; omega)
       have HFT : Hid ((arcs.take (i + 1)).foldl (rel1 p true x) x = rel1 p true x z arcs[i]) := by show _ = _; rw [fold_take _ _ _ _ _ hlt, HZz.out]
       rw [rel1_parts p true x z arcs[i] eA eB] at HFT
       have zA := hZ.cell hA
       have zB := hZ.cell hB
       have xA : wr.cell? ⟨g1, A, none⟩ = some (.int .i64 (x.getD A 0)) := by rw [hb.cell (p := ⟨g1, A, none⟩) hg1.2]; exact HZx.out.cell hA
       have xB : wr.cell? ⟨g1, B, none⟩ = some (.int .i64 (x.getD B 0)) := by rw [hb.cell (p := ⟨g1, B, none⟩) hg1.2]; exact HZx.out.cell hB
       have hgl := World.ownsRow.lt hZ g2 rfl
       have HG : Hid (g1 < wr.heap.size) := by show _ < _; omega
       rw [eA] at e0
       rw [eB] at e1
       clear hc eA eB hm hR
       generalize p arcs[i] = pa at *
       generalize arcs[i].2.2 = ac at *
       generalize x.getD A 0 = tA at *
       generalize x.getD B 0 = tB at *
       generalize hsB : z.getD B 0 = sB at *
       clear hsB
       have hiA : (A : Int) < (n : Int) := by omega
       have hiB : (B : Int) < (n : Int) := by omega
       have hw1 : IntKind.i64.wrap (tA + pa) = tA + pa := wrap_small _ (by omega) (by omega)
       have hw2 : IntKind.i64.wrap (tB + pa) = tB + pa := wrap_small _ (by omega) (by omega)
       have hne2 : Nonempty (HeldIn (wr.alloc (.cells #[.int .i64 (A : Int), .int .i64 (B : Int), .int .i64 ac] 72))) := ⟨⟨_, Below.refl _ _⟩⟩
       have f0 : ∀ s : HeldIn (wr.alloc (.cells #[.int .i64 (A : Int), .int .i64 (B : Int), .int .i64 ac] 72)), s.w.cell? ⟨wr.heap.size, 0, none⟩ = some (.int .i64 A) := fun s => by rw [s.h.cell (p := ⟨wr.heap.size, 0, none⟩) (by simp)]; simp
       have f1 : ∀ s : HeldIn (wr.alloc (.cells #[.int .i64 (A : Int), .int .i64 (B : Int), .int .i64 ac] 72)), s.w.cell? ⟨wr.heap.size, 1, none⟩ = some (.int .i64 B) := fun s => by rw [s.h.cell (p := ⟨wr.heap.size, 1, none⟩) (by simp)]; simp
       have f2 : ∀ s : HeldIn (wr.alloc (.cells #[.int .i64 (A : Int), .int .i64 (B : Int), .int .i64 ac] 72)), s.w.cell? ⟨wr.heap.size, 2, none⟩ = some (.int .i64 ac) := fun s => by rw [s.h.cell (p := ⟨wr.heap.size, 2, none⟩) (by simp)]; simp
       have f3 : ∀ s : HeldIn (wr.alloc (.cells #[.int .i64 (A : Int), .int .i64 (B : Int), .int .i64 ac] 72)), s.w.cell? ⟨g1, A, none⟩ = some (.int .i64 tA) := fun s => by rw [s.h.cell (p := ⟨g1, A, none⟩) (by simp; have := HG.out; omega), (pal wr _).cell (p := ⟨g1, A, none⟩) HG.out]; exact xA
       have f4 : ∀ s : HeldIn (wr.alloc (.cells #[.int .i64 (A : Int), .int .i64 (B : Int), .int .i64 ac] 72)), s.w.cell? ⟨g2, B, none⟩ = some (.int .i64 sB) := fun s => by rw [s.h.cell (p := ⟨g2, B, none⟩) (by simp; omega), (pal wr _).cell (p := ⟨g2, B, none⟩) hgl.2]; exact zB
       have HQ : Hid (∀ w1, Below (wr.alloc (.cells #[.int .i64 (A : Int), .int .i64 (B : Int), .int .i64 ac] 72)).heap.size (wr.alloc (.cells #[.int .i64 (A : Int), .int .i64 (B : Int), .int .i64 ac] 72)) w1 -> Below wr.heap.size wr w1 /\ Zo w1 wo.heap.size g2 n c2 z /\ wr.heap.size < w1.heap.size) := by
         intro w1 h1
         have h2 := ptw (pal wr _) h1
         have hz := h1.size
         simp only [World.size_alloc] at hz
         exact ⟨h2, HZZ.out.below h2, by omega⟩
       have hcl : ∀ s : HeldIn (wr.alloc (.cells #[.int .i64 (A : Int), .int .i64 (B : Int), .int .i64 ac] 72)), Calls Seq.prog g (#[.agg #[.int .i64 (A : Int), .int .i64 (B : Int), .int .i64 ac]] ++ caps) s.w fun e w' => e = .returned (.int .i64 pa) /\ Below s.w.heap.size s.w w' := fun s => HCL.out _ (ptw HBB.out (ptw (pal wr _) s.h))
       clear hZ hb
       go_wp2_with fail
       refine wp_region_held_back _ (Below.refl _ _) (by kernel_rfl) (by simp) (by kernel_rfl) (by kernel_rfl) (by kernel_rfl) ?_
       simp only [List.pop_toArray, List.dropLast, List.back!_toArray, List.getLast!]
       repeat (go_big_quiet_step ((go_at_fn g; exact held_of (hcl _))))
       refine wpQuiet_nil ?_
       rintro _ ⟨s, rfl⟩
       refine back_last (fun K hK => ?_)
       have k0 := f0 s
       have k1 := f1 s
       have k2 := f2 s
       have k4 := f4 s
       obtain ⟨hb4, hZ4, hl4⟩ := HQ.out _ s.h
       have fz := World.ownsRow.frozenAt hZ4 B
       have hgl4 := (World.ownsRow.lt hZ4 g2 rfl).2
       clear f0 f1 f2 f3 f4 hne2 HQ hcl
       generalize s.w = w4 at *
       clear s
       go_simp
       refine hK.out _ _ ?_
       clear hK K
       have hmin := min_if sB (tA + pa)
       rw [<- hmin] at HFT
       generalize (if tA + pa < sB then tA + pa else sB) = m1 at HFT ⊢
       clear hmin
       have G5 := gby_set w4 g2 B (.int .i64 m1)
       have hne5 : some wr.heap.size ≠ some g2 := fun e => by have := Option.some.inj e; omega
       have j0 := (G5.cell_far ⟨wr.heap.size, 0, none⟩ hl4 hne5).trans k0
       have j1 := (G5.cell_far ⟨wr.heap.size, 1, none⟩ hl4 hne5).trans k1
       have j2 := (G5.cell_far ⟨wr.heap.size, 2, none⟩ hl4 hne5).trans k2
       have jB : (w4.setCell ⟨g2, B, none⟩ (.int .i64 m1)).cell? ⟨g1, B, none⟩ = some (.int .i64 tB) := by
         rw [G5.cell_far ⟨g1, B, none⟩ (Nat.lt_of_lt_of_le HG.out hb4.size) (show some g1 ≠ some g2 from fun e => by have := Option.some.inj e; omega), hb4.cell (p := ⟨g1, B, none⟩) HG.out]; exact xB
       have hZ5 := hZ4.set B m1
       have jA := hZ5.cell hA
       have hl5 : wr.heap.size < (w4.setCell ⟨g2, B, none⟩ (.int .i64 m1)).heap.size := Nat.lt_of_lt_of_le hl4 G5.size
       have HB5 : Hid (Below wo.heap.size wo (w4.setCell ⟨g2, B, none⟩ (.int .i64 m1))) := (ptw HBB.out hb4).setCell hg2 _
       have HW5 : Hid (∀ W, Below (w4.setCell ⟨g2, B, none⟩ (.int .i64 m1)).heap.size (w4.setCell ⟨g2, B, none⟩ (.int .i64 m1)) W -> Calls Seq.prog g (#[.agg #[.int .i64 (A : Int), .int .i64 (B : Int), .int .i64 ac]] ++ caps) W fun e w' => e = .returned (.int .i64 pa) /\ Below W.heap.size W w') := by
         intro W hW
         exact HCL.out W ((ptw HB5.out hW))
       clear k0 k1 k2 k4 fz hgl4 hZ4 hb4 hl4 HCL xA xB zA zB
       generalize w4.setCell ⟨g2, B, none⟩ (.int .i64 m1) = w5 at *
       simp only [if_true] at HFT
       generalize hsA : (z.set B m1).getD A 0 = sA at HFT jA
       clear hsA
       have hg5 := (World.ownsRow.lt hZ5 g2 rfl).2
       have hg15 : g1 < w5.heap.size := by have := HG.out; omega
       have hne3 : Nonempty (HeldIn w5) := ⟨⟨_, Below.refl _ _⟩⟩
       have f0 : ∀ s : HeldIn w5, s.w.cell? ⟨wr.heap.size, 0, none⟩ = some (.int .i64 A) := fun s => (s.h.cell (p := ⟨wr.heap.size, 0, none⟩) hl5).trans j0
       have f1 : ∀ s : HeldIn w5, s.w.cell? ⟨wr.heap.size, 1, none⟩ = some (.int .i64 B) := fun s => (s.h.cell (p := ⟨wr.heap.size, 1, none⟩) hl5).trans j1
       have f2 : ∀ s : HeldIn w5, s.w.cell? ⟨wr.heap.size, 2, none⟩ = some (.int .i64 ac) := fun s => (s.h.cell (p := ⟨wr.heap.size, 2, none⟩) hl5).trans j2
       have f3 : ∀ s : HeldIn w5, s.w.cell? ⟨g1, B, none⟩ = some (.int .i64 tB) := fun s => (s.h.cell (p := ⟨g1, B, none⟩) hg15).trans jB
       have f4 : ∀ s : HeldIn w5, s.w.cell? ⟨g2, A, none⟩ = some (.int .i64 sA) := fun s => (s.h.cell (p := ⟨g2, A, none⟩) hg5).trans jA
       have HQ5 : Hid (∀ w6, Below w5.heap.size w5 w6 -> Zo w6 wo.heap.size g2 n c2 (z.set B m1) /\ w5.heap.size <= w6.heap.size /\ Below wo.heap.size wo w6) := fun w6 h6 => ⟨hZ5.below h6, h6.size, ptw HB5.out h6⟩
       have hcl : ∀ s : HeldIn w5, Calls Seq.prog g (#[.agg #[.int .i64 (A : Int), .int .i64 (B : Int), .int .i64 ac]] ++ caps) s.w fun e w' => e = .returned (.int .i64 pa) /\ Below s.w.heap.size s.w w' := fun s => HW5.out _ s.h
       clear hZ5 jA j0 j1 j2 jB HW5
       go_wp2_with fail
       refine wp_region_held_back _ (Below.refl _ _) (by kernel_rfl) (by simp) (by kernel_rfl) (by kernel_rfl) (by kernel_rfl) ?_
       simp only [List.pop_toArray, List.dropLast, List.back!_toArray, List.getLast!]
       repeat (go_big_quiet_step ((go_at_fn g; exact held_of (hcl _))))
       refine wpQuiet_nil ?_
       rintro _ ⟨s, rfl⟩
       refine back_last (fun K hK => ?_)
       have k4 := f4 s
       obtain ⟨hZ6, hl6, hb6⟩ := HQ5.out _ s.h
       have fz := World.ownsRow.frozenAt hZ6 A
       have hgl6 := (World.ownsRow.lt hZ6 g2 rfl).2
       clear f0 f1 f2 f3 f4 hne3 HQ5 hcl
       generalize s.w = w6 at *
       clear s
       go_simp
       refine hK.out _ _ ?_
       clear hK K
       have hmin := min_if sA (tB + pa)
       rw [<- hmin] at HFT
       generalize (if tB + pa < sA then tB + pa else sA) = m2 at HFT ⊢
       clear hmin
       have HZ7 := hidep (hZ6.set A m2)
       have HB7 : Hid (Below wo.heap.size wo (w6.setCell ⟨g2, A, none⟩ (.int .i64 m2))) := hb6.setCell hg2 _
       clear k4 fz hgl6 hZ6 hb6 hl6
       generalize w6.setCell ⟨g2, A, none⟩ (.int .i64 m2) = w7 at *
       go_wp2
       go_roundw
       case rel => exact ⟨i + 1, _, by omega, by go_num, HFT.out.symm, HZ7.out, HB7.out⟩
       case measure => simp [intOf]; omega
     · have hil : i = arcs.length := by omega
       have HRz : Hid (z = rnd arcs p true x) := by show _ = _; rw [HZz.out, hil, List.take_length]; rfl
       have hEq := EqualI_any (some ⟨g2, 0, none⟩) (some ⟨g1, 0, none⟩) c2 c1 z x wr (zsAt_of_zo hZ) (zsAt_of_zo (HZx.out.below hb)) (by rw [hZ.len]; omega)
       rw [hZ.len, hxl] at hEq
       have HMz : Hid (Mid first (ways true arcs) p z) := by
         show Mid _ _ _ _
         rw [HRz.out]; exact HRR.out _ HM.out
       by_cases hfix : z = x
       · have HI : Hid (RoundsIs arcs p true first x k) := ⟨HX.out, by rw [<- HRz.out]; exact hfix, HOn.out⟩
         have hd : decide (z = x) = true := by simpa using hfix
         rw [hd] at hEq
         clear hfix hd hZ hb
         go_wp2_with fail
         refine hEq.mono ?_
         rintro e w6 ⟨rfl, hb6⟩
         have HZ6 : Hid (Zo w6 w.heap.size g1 n c1 x) := owns_base2 ((HZx.out.below HBB.out).below hb6) (by omega)
         have HB6 := hidep (ptw HBW.out hb6)
         clear hb6 hEq
         go_wp2
         go_ret2
         exact ⟨_, _, x, _, rfl, HI.out, HZ6.out, HB6.out⟩
       · have HLs : Hid (msum z < msum x) := by
           have := HRL.out _ HM.out (fun h => hfix (HRz.out.trans h))
           rw [<- HRz.out] at this; exact this
         have HO2 : Hid (∀ j, j < k + 1 -> ¬ rnd arcs p true (rnds arcs p true j first) = rnds arcs p true j first) := by
           intro j hj h
           by_cases e : j = k
           · subst e
             rw [<- HX.out, <- HRz.out] at h
             exact hfix h
           · exact HOn.out j (by omega) h
         have HX2 : Hid (z = rnds arcs p true (k + 1) first) := by show _ = _; rw [HRz.out, HX.out]; rfl
         have hd : decide (z = x) = false := by simpa using hfix
         rw [hd] at hEq
         clear hfix hd hZ hb
         go_wp2_with fail
         refine hEq.mono ?_
         rintro e w6 ⟨rfl, hb6⟩
         have HZ6 : Hid (Zo w6 (w.heap.size + 1) g2 n c2 z) := owns_base2 (HZZ.out.below hb6) (by omega)
         have HB6 : Hid (Below (w.heap.size + 1) (w.alloc (.cells #[.slice ao na ca, .slice bo arcs.length cb] 49)) w6) := HB.out.trans ((ptw HBB.out hb6).mono (by omega))
         clear hb6 hEq
         go_wp2
         go_roundw
         case rel => exact ⟨k + 1, g2, c2, z, rfl, by go_num, HX2.out, HO2.out, HMz.out, by have := HLs.out; have := HMx.out; omega, HZ6.out, HB6.out⟩
         case measure =>
           show msum (rdL w6 g2 n) < msum (rdL wo g1 n)
           rw [Zo.rd HZ6.out, Zo.rd HZx.out]
           exact HLs.out
def begF (prog fr : Int) (v : Int) : Int := if prog = 3 then v else fromF fr v
theorem firstL_succ (al : List Bool) (f : Int -> Int) (k : Nat) (h : k < al.length) : ((firstL al f).take (k + 1)).map (Value.int .i64) = ((firstL al f).take k).map (Value.int .i64) ++ [.int .i64 (if al[k] = true then f k else 1099511627776)] := by
 rw [firstL_take al f k h, List.map_append, List.getD_eq_getElem?_getD, List.getElem?_eq_getElem h]; rfl
set_option maxRecDepth 100000 in
set_option maxHeartbeats 4000000 in
theorem rBegun_any (ao bo : Option Addr) (ca m cb : Nat) (al : List Bool) (prog fr : Int) (w : World) (hA : BsAt w ao al) (h12 : al.length <= 12) :
   Calls Seq.prog 26 #[.agg #[.slice ao al.length ca, .slice bo m cb], .int .i64 prog, .int .i64 fr] w fun e w' => ∃ v, e = .returned v /\ w'.ownsRow w.heap.size 3 1 v al.length ((firstL al (begF prog fr)).map (Value.int .i64)) /\ (al = [] -> v = .slice none 0 0) /\ Below w.heap.size w w' := by
 obtain ⟨i0, hi, hz0, hz1, hz2⟩ := info_parts Tryz.infoInt
 have HB := hidep (pal w)
 go_enter Seq.func26, Tryz.ntmps26
 go_wp2
 go_loopw [7, 8, 9] (fun v i _ wr => ∃ k : Nat, k <= al.length /\ i = .int .i64 k /\ wr.ownsRow (w.heap.size + 1) 3 1 v k (((firstL al (begF prog fr)).take k).map (Value.int .i64)) /\ (k = 0 -> v = .slice none 0 0) /\ Below (w.heap.size + 1) (w.alloc (.cells #[.slice ao al.length ca, .slice bo m cb] 49)) wr) (fun _ i _ _ => al.length - (intOf i).toNat)
 case atStart => exact ⟨0, Nat.zero_le _, rfl, World.ownsRow_nil _ _ _ _, fun _ => rfl, Below.refl _ _⟩
 case round =>
   obtain ⟨k, hk, rfl, hown, hnil, hb⟩ := hrel
   have hbw : Below w.heap.size w wr := (HB.out _).trans (hb.mono (by omega))
   have hz := hb.size
   simp only [World.size_alloc] at hz
   have hz0' : w.heap.size < wr.heap.size := by omega
   have q0 : wr.cell? ⟨w.heap.size, 0, none⟩ = some (.slice ao al.length ca) := by rw [hb.cell (p := ⟨w.heap.size, 0, none⟩) (by simp)]; simp
   by_cases hlt : k < al.length
   · rcases hA.below hbw with h0 | ⟨b, off, rfl, hbr, hc⟩
     · subst h0; simp at hlt
     have c0 := BsAt.at1 hlt hc
     have hki : (k : Int) < (al.length : Int) := by omega
     obtain ⟨x, hx⟩ : ∃ x, x = (if al[k] = true then begF prog fr k else 1099511627776) := ⟨_, rfl⟩
     have HE := hidep (firstL_succ al (begF prog fr) k hlt)
     rw [<- hx] at HE
     generalize ((firstL al (begF prog fr)).take k).map (Value.int .i64) = xs at hown HE
     have HN : Hid (∀ v' w', w'.ownsRow (w.heap.size + 1) 3 1 v' (k + 1) (xs ++ [.int .i64 x]) -> (wr.alloc (.cells #[.int .i64 x] 3)).grownBy w' u7.ownBlock ->
         (w'.ownsRow (w.heap.size + 1) 3 1 v' (k + 1) (((firstL al (begF prog fr)).take (k + 1)).map (Value.int .i64)) /\ Below (w.heap.size + 1) (w.alloc (.cells #[.slice (some ⟨b, off, none⟩) al.length ca, .slice bo m cb] 49)) w')) := by
       intro v' w' ho hg
       exact ⟨by rw [HE.out]; exact ho, (hb.alloc (by omega) _).grown hg (by simp; omega) (fun j hj => (hown.lt j hj).1)⟩
     clear hc hA hb hbw HE hnil
     cases ea : al[k] with
     | false =>
       rw [ea] at c0 hx
       simp only [Bool.false_eq_true, if_false] at hx
       subst hx
       clear ea
       go_wp2_with (at_builtin; refine wpList_append_own _ rfl _ _ 43 rfl (w.heap.size + 1) 3 i0 _ 1 8 ((Seq.pu 43).trans Tryz.underlying43) hi hz0 hz1 hz2 rfl (by decide) _ k _ rfl (hown.alloc _) ⟨wr.heap.size, 0, none⟩ 1 1 [.int .i64 1099511627776] rfl rfl ?c1 ?c2 (by unfold maxLen; omega) (by omega) (by simp; omega) ?_)
       case c1 => exact World.news_of_block (cs := #[.int .i64 1099511627776]) (t := 3) (fr := (0, 0)) (heap_alloc_new wr _)
       case c2 => intro u hu; simp at hu; subst hu; rfl
       intro v1 w1 hown' hgrow hnil'
       have HR := hidep (HN.out _ _ hown' hgrow)
       clear hown hown' hgrow hnil'
       go_wp2
       go_roundw
       case rel => exact ⟨k + 1, by omega, by go_num, HR.out.1, fun h => by omega, HR.out.2⟩
       case measure => simp [intOf]; omega
     | true =>
       rw [ea] at c0 hx
       simp only [if_true] at hx
       clear ea
       by_cases hp3 : prog = 3
       · have hx2 : x = (k : Int) := by rw [hx]; unfold begF; rw [if_pos hp3]
         subst hx2
         have d3 : (prog == 3) = true := by simpa using hp3
         clear hx hp3
         go_wp2_with (at_builtin; refine wpList_append_own _ rfl _ _ 43 rfl (w.heap.size + 1) 3 i0 _ 1 8 ((Seq.pu 43).trans Tryz.underlying43) hi hz0 hz1 hz2 rfl (by decide) _ k _ rfl (hown.alloc _) ⟨wr.heap.size, 0, none⟩ 1 1 [.int .i64 k] rfl rfl ?c1 ?c2 (by unfold maxLen; omega) (by omega) (by simp; omega) ?_)
         case c1 => exact World.news_of_block (cs := #[.int .i64 k]) (t := 3) (fr := (0, 0)) (heap_alloc_new wr _)
         case c2 => intro u hu; simp at hu; subst hu; rfl
         intro v1 w1 hown' hgrow hnil'
         have HR := hidep (HN.out _ _ hown' hgrow)
         clear hown hown' hgrow hnil'
         go_wp2
         go_roundw
         case rel => exact ⟨k + 1, by omega, by go_num, HR.out.1, fun h => by omega, HR.out.2⟩
         case measure => simp [intOf]; omega
       · have d3 : (prog == 3) = false := by simpa using hp3
         by_cases hpf : (k : Int) = fr
         · have hx2 : x = 0 := by rw [hx]; unfold begF fromF; rw [if_neg hp3, if_pos hpf]
           subst hx2
           have d4 : ((k : Int) == fr) = true := by simpa using hpf
           clear hx hp3 hpf
           go_wp2_with (at_builtin; refine wpList_append_own _ rfl _ _ 43 rfl (w.heap.size + 1) 3 i0 _ 1 8 ((Seq.pu 43).trans Tryz.underlying43) hi hz0 hz1 hz2 rfl (by decide) _ k _ rfl (hown.alloc _) ⟨wr.heap.size, 0, none⟩ 1 1 [.int .i64 0] rfl rfl ?c1 ?c2 (by unfold maxLen; omega) (by omega) (by simp; omega) ?_)
           case c1 => exact World.news_of_block (cs := #[.int .i64 0]) (t := 3) (fr := (0, 0)) (heap_alloc_new wr _)
           case c2 => intro u hu; simp at hu; subst hu; rfl
           intro v1 w1 hown' hgrow hnil'
           have HR := hidep (HN.out _ _ hown' hgrow)
           clear hown hown' hgrow hnil'
           go_wp2
           go_roundw
           case rel => exact ⟨k + 1, by omega, by go_num, HR.out.1, fun h => by omega, HR.out.2⟩
           case measure => simp [intOf]; omega
         · have hx2 : x = 1099511627776 := by rw [hx]; unfold begF fromF; rw [if_neg hp3, if_neg hpf]
           subst hx2
           have d4 : ((k : Int) == fr) = false := by simpa using hpf
           clear hx hp3 hpf
           go_wp2_with (at_builtin; refine wpList_append_own _ rfl _ _ 43 rfl (w.heap.size + 1) 3 i0 _ 1 8 ((Seq.pu 43).trans Tryz.underlying43) hi hz0 hz1 hz2 rfl (by decide) _ k _ rfl (hown.alloc _) ⟨wr.heap.size, 0, none⟩ 1 1 [.int .i64 1099511627776] rfl rfl ?c1 ?c2 (by unfold maxLen; omega) (by omega) (by simp; omega) ?_)
           case c1 => exact World.news_of_block (cs := #[.int .i64 1099511627776]) (t := 3) (fr := (0, 0)) (heap_alloc_new wr _)
           case c2 => intro u hu; simp at hu; subst hu; rfl
           intro v1 w1 hown' hgrow hnil'
           have HR := hidep (HN.out _ _ hown' hgrow)
           clear hown hown' hgrow hnil'
           go_wp2
           go_roundw
           case rel => exact ⟨k + 1, by omega, by go_num, HR.out.1, fun h => by omega, HR.out.2⟩
           case measure => simp [intOf]; omega
   · have hkl : k = al.length := by omega
     have HO : Hid (wr.ownsRow w.heap.size 3 1 u7 al.length ((firstL al (begF prog fr)).map (Value.int .i64))) := by
       have h1 := hown
       rw [hkl, List.take_of_length_le (by rw [firstL_length]; exact Nat.le_refl _)] at h1
       exact owns_base2 h1 (by omega)
     have HN : Hid (al = [] -> u7 = .slice none 0 0) := fun h => hnil (by rw [hkl, h]; rfl)
     clear hown hnil
     go_wp2
     go_ret
     exact ⟨_, rfl, HO.out, HN.out, hbw⟩
def pricZ (prog : Nat) (a : Ac) : Int := if prog = 1 then 1 else if prog = 2 then a.2.2 else 0
set_option maxRecDepth 100000 in
theorem plain1_any (a : Ac) (prog : Nat) (h3 : prog <= 3) (b : Nat) (w : World) (hc : w.cell? ⟨b, 0, none⟩ = some (.int .i64 prog)) (hb : b < w.heap.size) :
   Calls Seq.prog 27 (#[.agg #[.int .i64 a.1, .int .i64 a.2.1, .int .i64 a.2.2]] ++ #[.pointer (some ⟨b, 0, none⟩)]) w fun e w' => e = .returned (.int .i64 (pricZ prog a)) /\ Below w.heap.size w w' := by
 have e0 : (#[.agg #[.int .i64 a.1, .int .i64 a.2.1, .int .i64 a.2.2]] ++ #[.pointer (some ⟨b, 0, none⟩)] : Array Value) = #[.agg #[.int .i64 a.1, .int .i64 a.2.1, .int .i64 a.2.2], .pointer (some ⟨b, 0, none⟩)] := rfl
 rw [e0]
 have HB : Hid (∀ o o', Below w.heap.size w ((w.alloc o).alloc o')) := fun o o' => ptw (pal w o) (pal _ o')
 have hp : prog = 0 \/ prog = 1 \/ prog = 2 \/ prog = 3 := by omega
 obtain ⟨x, y, z⟩ := a
 rcases hp with rfl | rfl | rfl | rfl
 all_goals
   simp only [pricZ] at *
   clear h3
   go_enter Seq.func27, Tryz.ntmps27
   go_wp2
   go_ret
   exact ⟨rfl, HB.out _ _⟩
set_option maxRecDepth 100000 in
set_option maxHeartbeats 4000000 in
theorem Rounds_nil (g : Nat) (caps : Array Value) (ao bo : Option Addr) (ca cb na : Nat) (back : Bool) (w : World) :
   Calls Seq.prog 25 #[.agg #[.slice ao na ca, .slice bo 0 cb], .slice none 0 0, .func (.func g) #[] caps, .bool back] w fun e w' => e = .returned (.tuple #[.slice none 0 0, .int .i64 0]) /\ Below w.heap.size w w' := by
 obtain ⟨i0, hi, hz0, hz1, hz2⟩ := info_parts Tryz.infoInt
 have HB := hidep (pal w)
 go_enter Seq.func25, Tryz.ntmps25
 go_wp2_with (at_builtin; refine wpList_append_own_none rfl _ _ 43 rfl w.heap.size 3 i0 1 ((Seq.pu 43).trans Tryz.underlying43) hi _ 0 [] rfl (World.ownsRow_nil _ _ _ _) rfl ?_)
 refine wp_loop_rounds 1 ?_
 rw [rounds_succ]
 go_wp2_with (at_builtin; refine wpList_append_own_none rfl _ _ 43 rfl w.heap.size 3 i0 1 ((Seq.pu 43).trans Tryz.underlying43) hi _ 0 [] rfl (World.ownsRow_nil _ _ _ _) rfl ?_)
 refine wp_loop_rounds 1 ?_
 rw [rounds_succ]
 go_wp2_with (go_at_call 41; refine (EqualI_any none none 0 0 [] [] _ (.inl rfl) (.inl rfl) (by decide)).mono ?_; rintro e w1 ⟨rfl, hb1⟩)
 go_ret2
 exact ⟨rfl, ptw (HB.out _) hb1⟩
theorem fine_nil {arcs : List Ac} {p : Ac -> Int} (F : Fine [] arcs p) : arcs = [] := by
 cases arcs with
 | nil => rfl
 | cons a l => have := F.en a (by simp); simp at this; omega
theorem ways_nil {back : Bool} {arcs : List Ac} (h : ways back arcs = []) : arcs = [] := by
 cases arcs with
 | nil => rfl
 | cons a l => have := (mem_ways (back := back) (arcs := a :: l) (a := a) (by simp)).1; rw [h] at this; simp at this
theorem roundsAll_any (g : Nat) (caps : Array Value) (p : Ac -> Int) (eg : ∀ args w, (callFunc g args).run Seq.prog w = .ok (.enter g args) w) (ao bo : Option Addr) (ca cb na : Nat) (first : List Int) (arcs : List Ac) (back : Bool) (base0 : Nat) (v : Value) (w : World)
   (hv : w.ownsRow base0 3 1 v first.length (first.map (Value.int .i64))) (hnil : first = [] -> v = .slice none 0 0) (hR : PcAt w bo arcs) (F : Fine first (ways back arcs) p) (he : back = true -> Even p) (h12 : first.length <= 12) (h30 : arcs.length <= 30)
   (hf : ∀ a ∈ arcs, ∀ wq, Below w.heap.size w wq -> Calls Seq.prog g (#[.agg #[.int .i64 a.1, .int .i64 a.2.1, .int .i64 a.2.2]] ++ caps) wq fun e w' => e = .returned (.int .i64 (p a)) /\ Below wq.heap.size wq w') :
   Calls Seq.prog 25 #[.agg #[.slice ao na ca, .slice bo arcs.length cb], v, .func (.func g) #[] caps, .bool back] w fun e w' => ∃ v' x k, e = .returned (.tuple #[v', .int .i64 (k : Nat)]) /\ RoundsIs arcs p back first x k /\ w'.ownsRow w.heap.size 3 1 v' first.length (x.map (Value.int .i64)) /\ Below w.heap.size w w' := by
 by_cases h0 : first = []
 · obtain rfl := hnil h0
   subst h0
   obtain rfl := ways_nil (fine_nil F)
   refine (Rounds_nil g caps ao bo ca cb na back w).mono ?_
   rintro e w' ⟨rfl, hb⟩
   exact ⟨_, [], 0, rfl, ⟨rfl, rfl, fun j h => by omega⟩, World.ownsRow_nil _ _ _ _, hb⟩
 · have hp : 0 < first.length := by cases first <;> simp_all
   rcases hv.2 with ⟨_, h1⟩ | ⟨fb, fc, cur, rfl, _⟩
   · omega
   · cases back
     · refine (Rounds_false g caps p eg ao bo ca cb fb fc na first arcs base0 w hv hR F he hp h12 h30 hf).mono ?_
       rintro e w' ⟨gb, c, x, k, rfl, hI, hZ, hb⟩
       exact ⟨_, x, k, rfl, hI, hZ, hb⟩
     · refine (Rounds_true g caps p eg ao bo ca cb fb fc na first arcs base0 w hv hR F he hp h12 h30 hf).mono ?_
       rintro e w' ⟨gb, c, x, k, rfl, hI, hZ, hb⟩
       exact ⟨_, x, k, rfl, hI, hZ, hb⟩
theorem pricZ_even : Even (pricZ 3) := fun _ => rfl
theorem fine_prog {al : List Bool} {arcs : List Ac} (S : Shot al arcs) (fr : Int) {prog : Nat} (hp : prog = 1 \/ prog = 2 \/ prog = 3) : Fine (firstL al (begF prog fr)) (ways (decide (prog = 3)) arcs) (pricZ prog) /\ (decide (prog = 3) = true -> Even (pricZ prog)) := by
 have nv := S.nv
 rcases hp with rfl | rfl | rfl
 · exact ⟨S.fine (fun v _ => fromF_bounds fr v) (fun a _ => by unfold pricZ; simp), fun h => by simp at h⟩
 · exact ⟨S.fine (fun v _ => fromF_bounds fr v) (fun a ha => by unfold pricZ; simpa using S.cost a ha), fun h => by simp at h⟩
 · exact ⟨S.bothW (fun v hv => by unfold begF; simp; omega) (fun a _ => by unfold pricZ; simp) pricZ_even, fun _ => pricZ_even⟩
set_option maxRecDepth 100000 in
set_option maxHeartbeats 8000000 in
theorem rPlain_any (ao bo : Option Addr) (ca cb : Nat) (al : List Bool) (arcs : List Ac) (fr : Int) (prog : Nat) (hp : prog = 1 \/ prog = 2 \/ prog = 3) (w : World) (hA : BsAt w ao al) (hR : PcAt w bo arcs) (S : Shot al arcs) :
   Calls Seq.prog 14 #[.agg #[.slice ao al.length ca, .slice bo arcs.length cb], .int .i64 prog, .int .i64 fr] w fun e w' => ∃ v x k, e = .returned (.tuple #[v, .int .i64 (k : Nat)]) /\ RoundsIs arcs (pricZ prog) (decide (prog = 3)) (firstL al (begF prog fr)) x k /\ w'.ownsRow w.heap.size 3 1 v al.length (x.map (Value.int .i64)) /\ Below w.heap.size w w' := by
 have eg1 : ∀ args w, (callFunc 27 args).run Seq.prog w = .ok (.enter 27 args) w := fun args w => rfl
 have HFN := hidep (fine_prog S fr hp)
 have HS := hidep S
 have HB : Hid (∀ o o', Below w.heap.size w ((w.alloc o).alloc o')) := fun o o' => ptw (pal w o) (pal _ o')
 have HBg : Hid (∀ W, Below w.heap.size w W -> Calls Seq.prog 26 #[.agg #[.slice ao al.length ca, .slice bo arcs.length cb], .int .i64 prog, .int .i64 fr] W fun e w' => ∃ v, e = .returned v /\ w'.ownsRow W.heap.size 3 1 v al.length ((firstL al (begF prog fr)).map (Value.int .i64)) /\ (al = [] -> v = .slice none 0 0) /\ Below W.heap.size W w') := fun W hW => rBegun_any ao bo ca arcs.length cb al prog fr W (hA.below hW) S.nv
 have HRd : Hid (∀ W base0 v, Below w.heap.size w W -> w.heap.size + 1 < W.heap.size -> W.cell? ⟨w.heap.size + 1, 0, none⟩ = some (.int .i64 prog) -> W.ownsRow base0 3 1 v al.length ((firstL al (begF prog fr)).map (Value.int .i64)) -> (al = [] -> v = .slice none 0 0) -> Calls Seq.prog 25 #[.agg #[.slice ao al.length ca, .slice bo arcs.length cb], v, .func (.func 27) #[] #[.pointer (some ⟨w.heap.size + 1, 0, none⟩)], .bool (decide (prog = 3))] W fun e w' => ∃ v' x k, e = .returned (.tuple #[v', .int .i64 (k : Nat)]) /\ RoundsIs arcs (pricZ prog) (decide (prog = 3)) (firstL al (begF prog fr)) x k /\ w'.ownsRow W.heap.size 3 1 v' al.length (x.map (Value.int .i64)) /\ Below W.heap.size W w') := by
   intro W base0 v hW hlt hc ho hnil
   have := roundsAll_any 27 #[.pointer (some ⟨w.heap.size + 1, 0, none⟩)] (pricZ prog) eg1 ao bo ca cb al.length (firstL al (begF prog fr)) arcs (decide (prog = 3)) base0 v W (by rw [firstL_length]; exact ho) (fun h => hnil (List.eq_nil_of_length_eq_zero (by rw [<- firstL_length al (begF prog fr), h]; rfl))) (hR.below hW) HFN.out.1 HFN.out.2 (by rw [firstL_length]; exact HS.out.nv) HS.out.na (fun a _ wq hq => plain1_any a prog (by omega) _ wq ((hq.cell (p := ⟨w.heap.size + 1, 0, none⟩) hlt).trans hc) (Nat.lt_of_lt_of_le hlt hq.size))
   rw [firstL_length] at this
   exact this
 clear S hA hR eg1 HS HFN
 have hzk : ((prog : Int) == 3) = decide (prog = 3) := by rw [Bool.eq_iff_iff]; simp; omega
 generalize decide (prog = 3) = bk at *
 generalize pricZ prog = pz at *
 generalize (prog : Int) = z at *
 clear hp
 generalize hfi : firstL al (begF z fr) = first at *
 clear hfi
 have B2 : Hid (∀ W, Below ((w.alloc (.cells #[.slice ao al.length ca, .slice bo arcs.length cb] 49)).alloc (.cells #[.int .i64 z] 3)).heap.size ((w.alloc (.cells #[.slice ao al.length ca, .slice bo arcs.length cb] 49)).alloc (.cells #[.int .i64 z] 3)) W -> W.cell? ⟨w.heap.size, 0, none⟩ = some (.slice ao al.length ca) /\ W.cell? ⟨w.heap.size, 1, none⟩ = some (.slice bo arcs.length cb) /\ W.cell? ⟨w.heap.size + 1, 0, none⟩ = some (.int .i64 z) /\ Below w.heap.size w W /\ w.heap.size + 1 < W.heap.size) := by
   intro W h
   have hz := h.size
   simp only [World.size_alloc] at hz
   refine ⟨?_, ?_, ?_, ptw (HB.out _ _) h, by omega⟩
   · rw [h.cell (p := ⟨w.heap.size, 0, none⟩) (by simp; omega), World.cell?_alloc_past _ _ _ (by simp), World.cell?_alloc_at _ _ _ _ rfl]; rfl
   · rw [h.cell (p := ⟨w.heap.size, 1, none⟩) (by simp; omega), World.cell?_alloc_past _ _ _ (by simp), World.cell?_alloc_at _ _ _ _ rfl]; rfl
   · rw [h.cell (p := ⟨w.heap.size + 1, 0, none⟩) (by simp), World.cell?_alloc_at _ _ _ _ (by simp)]; rfl
 clear HB
 obtain ⟨a0, a1, a2, _, a4⟩ := B2.out _ (Below.refl _ _)
 go_enter Seq.func14, Tryz.ntmps14
 go_wp2_with fail
 generalize (w.alloc (.cells #[.slice ao al.length ca, .slice bo arcs.length cb] 49)).alloc (.cells #[.int .i64 z] 3) = w2 at *
 go_region_held3 (fun w' => w'.cell? ⟨w.heap.size, 0, none⟩ = some (.slice ao al.length ca) /\ w'.cell? ⟨w.heap.size, 1, none⟩ = some (.slice bo arcs.length cb) /\ w'.cell? ⟨w.heap.size + 1, 0, none⟩ = some (.int .i64 z))
   (first | go_keep | (refine ⟨?_, ?_, ?_⟩ <;> assumption))
   (first
     | (go_at_call 26; refine (HBg.out _ (B2.out _ (Below.refl _ _).drew).2.2.2.1).mono ?_; rintro e w3 ⟨v, rfl, hown3, hnil3, hb3⟩; have hb3' : Below w2.heap.size w2 w3 := ptw (Below.refl _ _).drew hb3; obtain ⟨d0, d1, d2, d3, d4⟩ := B2.out _ hb3')
     | (revert hb3'; intro hb3'; go_at_call 25; refine (HRd.out _ _ _ d3 d4 d2 hown3 hnil3).mono ?_; rintro e w4 ⟨v4, x4, k4, rfl, hI4, hown4, hb4⟩; have hb4' : Below w2.heap.size w2 w4 := ptw hb3' hb4; obtain ⟨e0, e1, e2, e3, e4⟩ := B2.out _ hb4'))
 all_goals
   have HI := hidep hI4
   have HO := hidep (owns_base2 (base' := w.heap.size) hown4 (by omega))
   have HE3 := hidep e3
   clear hI4 hown4 hown3 hnil3 hb3 hb4
   go_wp2
   go_ret2
   exact ⟨_, _, _, rfl, HI.out, HO.out, HE3.out⟩
abbrev P3 := Int × Int × Int
def updF {α : Type} (f : Nat -> α) (v : Nat) (x : α) : Nat -> α := fun i => if i = v then x else f i
theorem updF_same {α : Type} (f : Nat -> α) (v : Nat) (x : α) : updF f v x v = x := by simp [updF]
theorem updF_far {α : Type} (f : Nat -> α) {v i : Nat} (x : α) (h : i ≠ v) : updF f v x i = f i := by simp [updF, h]
theorem map_updF (n v : Nat) (val : Nat -> Value) (x : Value) : ((List.range n).map val).set v x = (List.range n).map (updF val v x) := by
 apply List.ext_getElem (by simp)
 intro i h1 h2
 simp only [List.getElem_set, List.getElem_map, List.getElem_range, updF]
 by_cases e : v = i
 · simp [e]
 · have e2 : ¬ i = v := fun h => e h.symm
   simp [e, e2]
theorem owns_apart {W : World} {base e size base' e' size' n n' : Nat} {v v' : Value} {xs xs' : List Value} (h : W.ownsRow base e size v n xs) (h' : W.ownsRow base' e' size' v' n' xs') (he : e ≠ e') : v.ownBlock = none \/ v.ownBlock ≠ v'.ownBlock := by
 rcases h.2 with ⟨rfl, _⟩ | ⟨g, cap, cur, rfl, _, hh, _⟩
 · exact .inl rfl
 · right
   intro e
   rcases h'.2 with ⟨rfl, _⟩ | ⟨g', cap', cur', rfl, _, hh', _⟩
   · cases e
   · have : g = g' := Option.some.inj e
     subst this
     rw [hh] at hh'
     simp only [Option.some.injEq, Obj.cells.injEq] at hh'
     exact he hh'.2.1
structure AM (W : World) (base go n : Nat) (val : Nat -> Value) (pcs : Nat -> List P3) : Prop where
 own : W.ownsRow base 32 1 (.slice (some ⟨go, 0, none⟩) n n) n ((List.range n).map val)
 inn : ∀ v, v < n -> W.ownsRow base 35 3 (val v) (pcs v).length (enc3 (pcs v))
 ap : ∀ v v', v < n -> v' < n -> v ≠ v' -> (val v).ownBlock = none \/ (val v).ownBlock ≠ (val v').ownBlock
theorem AM.below {W W' : World} {base go n : Nat} {val : Nat -> Value} {pcs : Nat -> List P3} (A : AM W base go n val pcs) (hb : Below W.heap.size W W') : AM W' base go n val pcs :=
 ⟨ownsRow_below A.own hb, fun v hv => ownsRow_below (A.inn v hv) hb, A.ap⟩
theorem AM.out {W : World} {base go n : Nat} {val : Nat -> Value} {pcs : Nat -> List P3} (A : AM W base go n val pcs) {v : Nat} (hv : v < n) : W.cell? ⟨go, v, none⟩ = some (val v) := by
 rw [World.ownsRow.cellAt A.own v (by omega)]; simp [hv]
theorem AM.far {W : World} {base go n : Nat} {val : Nat -> Value} {pcs : Nat -> List P3} (A : AM W base go n val pcs) {v : Nat} (hv : v < n) : (val v).ownBlock ≠ some go := by
 rcases owns_apart (A.inn v hv) A.own (by decide) with e | e
 · rw [e]; intro h; cases h
 · exact e
theorem AM.put {W w5 : World} {base go n : Nat} {val : Nat -> Value} {pcs : Nat -> List P3} (A : AM W base go n val pcs) {v : Nat} (hv : v < n) (o : Obj) {v' : Value} {p : P3} (hgr : (W.alloc o).grownBy w5 (val v).ownBlock) (h5 : w5.ownsRow base 35 3 v' ((pcs v).length + 1) (enc3 (pcs v ++ [p]))) (hat : v'.ownBlock = (val v).ownBlock \/ v'.ownBlock = some (W.alloc o).heap.size) :
   AM (w5.setCell ⟨go, v, none⟩ v') base go n (updF val v v') (updF pcs v (pcs v ++ [p])) := by
 have o1 := World.ownsRow.kept (World.ownsRow.alloc (w := W) A.own o) hgr (owns_apart A.own (A.inn v hv) (by decide))
 have o2 := (World.ownsRow.stored o1 v v').1
 rw [map_updF] at o2
 have hgo : v'.ownBlock ≠ some go := by
   rcases owns_apart h5 o1 (by decide) with e | e
   · rw [e]; intro h; cases h
   · exact e
 refine ⟨o2, fun i hi => ?_, fun i i' hi hi' hne => ?_⟩
 · by_cases e : i = v
   · subst e
     rw [updF_same, updF_same, List.length_append]
     exact ownsRow_setBox h5 hgo
   · rw [updF_far _ _ e, updF_far _ _ e]
     exact ownsRow_setBox (World.ownsRow.kept (World.ownsRow.alloc (w := W) (A.inn i hi) o) hgr (A.ap i v hi hv e)) (A.far hi)
 · by_cases e : i = v
   · subst e
     rw [updF_same, updF_far _ _ (fun h => hne h.symm)]
     rcases hat with a | a
     · rw [a]; exact A.ap i i' hi hi' hne
     · right
       rw [a]
       intro h
       have h2 := ((A.inn i' hi').lt _ h.symm).2
       simp at h2
       omega
   · rw [updF_far _ _ e]
     by_cases e' : i' = v
     · subst e'
       rw [updF_same]
       rcases hat with a | a
       · rw [a]; exact A.ap i i' hi hi' hne
       · right
         rw [a]
         intro h
         have h2 := ((A.inn i hi).lt _ h).2
         simp at h2
         omega
     · rw [updF_far _ _ e']; exact A.ap i i' hi hi' hne
theorem enc3_last (l : List P3) (f t x m : Int) : (enc3 (l ++ [(f, t, x)])).set (l.length * 3 + 1) (.int .i64 m) = enc3 (l ++ [(f, m, x)]) := by
 rw [enc3_append, enc3_append, List.set_append_right _ _ (by rw [enc3_length]; omega), enc3_length, show l.length * 3 + 1 - l.length * 3 = 1 from by omega]; rfl
theorem AM.more {W : World} {base go n : Nat} {val : Nat -> Value} {pcs : Nat -> List P3} (A : AM W base go n val pcs) {v : Nat} (hv : v < n) {l : List P3} {f t x m : Int} (hl : pcs v = l ++ [(f, t, x)]) {b cap : Nat} (hb : val v = .slice (some ⟨b, 0, none⟩) (pcs v).length cap) :
   AM (W.setCell ⟨b, l.length * 3 + 1, none⟩ (.int .i64 m)) base go n val (updF pcs v (l ++ [(f, m, x)])) := by
 have hf : some go ≠ some b := fun e => A.far hv (by rw [hb]; exact e.symm)
 refine ⟨ownsRow_setBox A.own hf, fun i hi => ?_, A.ap⟩
 rw [hl] at hb
 by_cases e : i = v
 · subst e
   rw [updF_same]
   have h := A.inn i hi
   rw [hl, hb] at h
   have := (World.ownsRow.stored h (l.length * 3 + 1) (.int .i64 m)).1
   rw [enc3_last] at this
   rw [hb]
   simpa using this
 · rw [updF_far _ _ e]
   refine ownsRow_setBox (A.inn i hi) ?_
   rcases A.ap i v hi hv e with h | h
   · rw [h]; intro h; cases h
   · rw [hb] at h; exact h
theorem rounds_unique {arcs : List Ac} {p : Ac -> Int} {back : Bool} {first x x' : List Int} {k k' : Nat} (R : RoundsIs arcs p back first x k) (R' : RoundsIs arcs p back first x' k') : x = x' /\ k = k' := by
 have e : k = k' := by
   rcases Nat.lt_trichotomy k k' with h | h | h
   · exact absurd (by have := R.stop; rw [R.is] at this; exact this) (R'.on k h)
   · exact h
   · exact absurd (by have := R'.stop; rw [R'.is] at this; exact this) (R.on k' h)
 subst e
 exact ⟨R.is.trans R'.is.symm, rfl⟩
theorem shot_snap {g : Gr} (R : Right g) (t : Int) : Shot (aliveL t g.lives) (arcsL t g.lives g.edges) := by
 have key : ∀ a ∈ arcsL t g.lives g.edges, (alv (aliveL t g.lives) a.1 = true /\ alv (aliveL t g.lives) a.2.1 = true) /\ 0 <= a.2.2 /\ a.2.2 <= 1000 := by
   intro a ha
   unfold arcsL at ha
   rw [List.mem_flatMap] at ha
   obtain ⟨e, he, ha⟩ := ha
   have hend := R.ends e he
   unfold arcOf at ha
   split at ha
   · simp at ha
   · rename_i l hl
     split at ha
     · rename_i hal
       simp only [List.mem_singleton] at ha
       subst ha
       rw [Bool.and_eq_true] at hal
       have hf := (fitB_iff _ _).1 (R.legs e he l (lgFind_mem hl).1)
       refine ⟨⟨?_, ?_⟩, by show 0 <= l.2.2.2; omega, by show l.2.2.2 <= 1000; omega⟩
       · unfold alv vtx
         rw [aliveL_length]
         have := hal.1
         unfold aliveB at this
         simp only [this, Bool.and_true]
         simp; omega
       · unfold alv vtx
         rw [aliveL_length]
         have := hal.2
         unfold aliveB at this
         simp only [this, Bool.and_true]
         simp; omega
     · simp at ha
 have h1 := R.lvs
 have h2 := R.eds
 have h3 := arcs_len t g.lives g.edges
 exact ⟨by rw [aliveL_length]; omega, by omega, fun a ha => (key a ha).1, fun a ha => (key a ha).2⟩
def PlIs (g : Gr) (p : Nat) (fr : Int) (t : Nat) (x : List Int) (k : Nat) : Prop := RoundsIs (arcsL t g.lives g.edges) (pricZ p) (decide (p = 3)) (firstL (aliveL t g.lives) (begF p fr)) x k
open Classical in
noncomputable def plF (g : Gr) (p : Nat) (fr : Int) (t : Nat) : List Int × Nat := if h : ∃ q : List Int × Nat, PlIs g p fr t q.1 q.2 then Classical.choose h else ([], 0)
theorem plF_eq {g : Gr} {p : Nat} {fr : Int} {t : Nat} {x : List Int} {k : Nat} (h : PlIs g p fr t x k) : plF g p fr t = (x, k) := by
 have hx : ∃ q : List Int × Nat, PlIs g p fr t q.1 q.2 := ⟨(x, k), h⟩
 unfold plF
 rw [dif_pos hx]
 obtain ⟨e1, e2⟩ := rounds_unique (Classical.choose_spec hx) h
 exact Prod.ext e1 e2
def oneP (l : List P3) (t x : Int) : List P3 :=
 if x = 1099511627776 then l
 else
   match l.getLast? with
   | none => l ++ [(t, t + 1, x)]
   | some q => if q.2.1 = t /\ q.2.2 = x then l.dropLast ++ [(q.1, t + 1, x)] else l ++ [(t, t + 1, x)]
noncomputable def allP (g : Gr) (p : Nat) (fr : Int) (v : Nat) : Nat -> List P3
 | 0 => []
 | k + 1 => oneP (allP g p fr v k) k ((plF g p fr k).1.getD v 0)
noncomputable def allR (g : Gr) (p : Nat) (fr : Int) : Nat -> Int
 | 0 => 0
 | k + 1 => max (allR g p fr k) ((plF g p fr k).2 : Int)
theorem oneP_skip {l : List P3} {t x : Int} (h : x = 1099511627776) : oneP l t x = l := by unfold oneP; rw [if_pos h]
theorem oneP_nil {t x : Int} (h : x ≠ 1099511627776) : oneP [] t x = [] ++ [(t, t + 1, x)] := by unfold oneP; rw [if_neg h]; rfl
theorem oneP_more {l : List P3} {f t x : Int} (h : x ≠ 1099511627776) : oneP (l ++ [(f, t, x)]) t x = l ++ [(f, t + 1, x)] := by unfold oneP; rw [if_neg h]; simp
theorem oneP_new {l : List P3} {f t x t' x' : Int} (h : x ≠ 1099511627776) (hn : ¬ (t' = t /\ x' = x)) : oneP (l ++ [(f, t', x')]) t x = l ++ [(f, t', x')] ++ [(t, t + 1, x)] := by unfold oneP; rw [if_neg h]; simp [hn]
theorem oneP_len (l : List P3) (t x : Int) : (oneP l t x).length <= l.length + 1 := by
 unfold oneP
 split
 · omega
 · split
   · simp
   · split <;> simp <;> omega
theorem allP_len (g : Gr) (p : Nat) (fr : Int) (v : Nat) : ∀ k, (allP g p fr v k).length <= k
 | 0 => by simp [allP]
 | k + 1 => by
   have := oneP_len (allP g p fr v k) k ((plF g p fr k).1.getD v 0)
   have h2 := allP_len g p fr v k
   rw [allP]; omega
noncomputable def pcJ (g : Gr) (p : Nat) (fr : Int) (k j : Nat) : Nat -> List P3 := fun v => if v < j then allP g p fr v (k + 1) else allP g p fr v k
theorem pcJ_zero (g : Gr) (p : Nat) (fr : Int) (k : Nat) : pcJ g p fr k 0 = fun v => allP g p fr v k := by funext v; simp [pcJ]
theorem pcJ_at (g : Gr) (p : Nat) (fr : Int) (k j : Nat) : pcJ g p fr k j j = allP g p fr j k := by simp [pcJ]
theorem pcJ_step (g : Gr) (p : Nat) (fr : Int) (k j : Nat) : pcJ g p fr k (j + 1) = updF (pcJ g p fr k j) j (allP g p fr j (k + 1)) := by
 funext v
 unfold pcJ updF
 by_cases e : v = j
 · subst e; simp
 · rw [if_neg e]
   show _ = if v < j then allP g p fr v (k + 1) else allP g p fr v k
   by_cases h : v < j
   · rw [if_pos h, if_pos (by omega)]
   · rw [if_neg h, if_neg (by omega)]
theorem pcJ_skip {g : Gr} {p : Nat} {fr : Int} {k j : Nat} (h : allP g p fr j (k + 1) = allP g p fr j k) : pcJ g p fr k (j + 1) = pcJ g p fr k j := by
 rw [pcJ_step, h]
 funext v
 unfold updF
 by_cases e : v = j
 · subst e; rw [if_pos rfl, pcJ_at]
 · rw [if_neg e]
theorem AM.congr {W : World} {base go n : Nat} {val : Nat -> Value} {pcs pcs' : Nat -> List P3} (A : AM W base go n val pcs) (h : ∀ v, v < n -> pcs v = pcs' v) : AM W base go n val pcs' := ⟨A.own, fun v hv => by rw [<- h v hv]; exact A.inn v hv, A.ap⟩
theorem AM.base {W : World} {base base' go n : Nat} {val : Nat -> Value} {pcs : Nat -> List P3} (A : AM W base go n val pcs) (h : base' <= base) : AM W base' go n val pcs := ⟨owns_base2 A.own h, fun v hv => owns_base2 (A.inn v hv) h, A.ap⟩
theorem own_slice {W : World} {base e size n : Nat} {v : Value} {xs : List Value} (h : W.ownsRow base e size v n xs) (hn : 0 < n) : ∃ b c, v = .slice (some ⟨b, 0, none⟩) n c := by
 rcases h.2 with ⟨_, h0⟩ | ⟨b, c, cur, e, _⟩
 · omega
 · exact ⟨b, c, e⟩
theorem last_or (l : List P3) : l = [] \/ ∃ init f t x, l = init ++ [(f, t, x)] := by
 rcases List.eq_nil_or_concat l with h | ⟨a, b, h⟩
 · exact .inl h
 · exact .inr ⟨a, b.1, b.2.1, b.2.2, by rw [h]; simp⟩
theorem Tryz.infoPcs : (Seq.prog.info? 32).map (fun i => (i.zero, i.size, i.bytes)) = some (some (.slice none 0 0), 1, 24) := by kernel_rfl
theorem am_start {w0 : World} {base go n : Nat} (h : w0.ownsRow base 32 1 (.slice (some ⟨go, 0, none⟩) n n) n (madeCells (Value.slice none 0 0).cells (n * 1)).toList) : AM w0 base go n (fun _ => .slice none 0 0) (fun _ => []) := by
 have e1 : (madeCells (Value.slice none 0 0).cells (n * 1)).toList = (List.range n).map (fun _ => Value.slice none 0 0) := by
   rw [Nat.mul_one]
   show (madeCells #[Value.slice none 0 0] n).toList = _
   rw [toList_madeCells_one]
   simp [List.map_const']
 rw [e1] at h
 exact ⟨h, fun _ _ => World.ownsRow_nil _ _ _ _, fun _ _ _ _ _ => .inl rfl⟩
set_option maxRecDepth 100000 in
set_option maxHeartbeats 8000000 in
theorem All_any (g : Gr) (la ea : Option Addr) (lc ec : Nat) (p : Nat) (fr : Int) (w : World) (hG : GAt w la ea g) (hR : Right g) (hp : p = 1 \/ p = 2 \/ p = 3) :
   Calls Seq.prog 5 #[.agg #[.int .i64 g.hor, .slice la g.lives.length lc, .slice ea g.edges.length ec], .int .i64 p, .int .i64 fr] w fun r w' => ∃ go val, r = .returned (.tuple #[.slice (some ⟨go, 0, none⟩) g.lives.length g.lives.length, .int .i64 (allR g p fr g.hor.toNat)]) /\ AM w' w.heap.size go g.lives.length val (fun v => allP g p fr v g.hor.toNat) /\ Below w.heap.size w w' := by
 obtain ⟨i0, hi, hz0, hz1, hz2⟩ := info_parts Tryz.infoPiece
 obtain ⟨i1, hi', hy0, hy1, hy2⟩ := info_parts Tryz.infoPcs
 have hor := hR.hor
 have hlv := hR.lvs
 obtain ⟨H, hH⟩ : ∃ H : Nat, H = g.hor.toNat := ⟨_, rfl⟩
 obtain ⟨n, hn⟩ : ∃ n : Nat, n = g.lives.length := ⟨_, rfl⟩
 have hHi : g.hor = (H : Int) := by omega
 have hH1 : 1 <= H /\ H <= 100 := by omega
 have hn12 : n <= 12 := by omega
 obtain ⟨w1, hw1⟩ : ∃ x, x = w.alloc (.cells #[.int .i64 g.hor, .slice la g.lives.length lc, .slice ea g.edges.length ec] 25) := ⟨_, rfl⟩
 have B1 : GBox w w1 w.heap.size g la ea lc ec := by rw [hw1]; exact gbox_start w g la ea lc ec _
 have HB1 := hideg B1
 have hw1s := hw1.symm
 have b1 := B1.c1
 have hsn : ∀ (k : Nat) (W : World), Below w1.heap.size w1 W -> Calls Seq.prog 15 #[.agg #[.int .i64 (H : Int), .slice la n lc, .slice ea g.edges.length ec], .int .i64 k] W fun r w' => ∃ ao ca bo cb, r = .returned (.agg #[.slice ao (aliveL k g.lives).length ca, .slice bo (arcsL k g.lives g.edges).length cb]) /\ BsAt w' ao (aliveL k g.lives) /\ PcAt w' bo (arcsL k g.lives g.edges) /\ Below W.heap.size W w' := fun k W hb => by
   have := RSnap_any g la ea lc ec k W (hG.below (B1.below hb).bel) hR
   rw [<- hn, hHi] at this
   refine this.mono ?_
   rintro r w' ⟨va, vc, rfl, h1, h2, h3⟩
   obtain ⟨ao, ca, rfl, h4⟩ := bsAt_of_owns h1
   obtain ⟨bo, cb, rfl, h5⟩ := pcAt_of_owns h2
   exact ⟨ao, ca, bo, cb, rfl, h4, h5, h3⟩
 have HSn := hideg hsn
 have hpl : ∀ (k : Nat) (ao bo : Option Addr) (ca cb : Nat) (W : World), BsAt W ao (aliveL k g.lives) -> PcAt W bo (arcsL k g.lives g.edges) -> Calls Seq.prog 14 #[.agg #[.slice ao (aliveL k g.lives).length ca, .slice bo (arcsL k g.lives g.edges).length cb], .int .i64 p, .int .i64 fr] W fun e w' => ∃ ox cx, e = .returned (.tuple #[.slice ox n cx, .int .i64 ((plF g p fr k).2 : Nat)]) /\ w'.ownsRow W.heap.size 3 1 (.slice ox n cx) n ((plF g p fr k).1.map (Value.int .i64)) /\ Below W.heap.size W w' := fun k ao bo ca cb W h1 h2 => by
   refine (rPlain_any ao bo ca cb _ _ fr p hp W h1 h2 (shot_snap hR k)).mono ?_
   rintro e w' ⟨v, x, kk, rfl, hI, ho, hb⟩
   have hq : PlIs g p fr k x kk := hI
   rw [plF_eq hq]
   rw [aliveL_length, <- hn] at ho
   have hxl : x.length = n := by have := ho.1; simpa using this
   obtain ⟨ox, cx, rfl, hz⟩ := zsAt_of_owns ho
   rw [hxl] at ho ⊢
   exact ⟨ox, cx, rfl, ho, hb⟩
 have HPl := hideg hpl
 rw [<- hn, <- hH]
 rw [hHi, <- hn] at hw1s
 rw [hHi]
 rw [<- hn] at b1
 have HHi := hideg hHi
 have HN := hideg hn
 clear hw1 hHi hn hH hor hlv hG hR B1 hsn hpl hp
 go_enter Seq.func5, Tryz.ntmps5
 go_wp2_with (at_make; refine wpList_make_full _ rfl _ _ 28 rfl w1.heap.size 32 i1 (.slice none 0 0) 1 ((Seq.pu 28).trans Tryz.underlying28) hi' hy0 hy1 .i64 .i64 _ _ n rfl rfl rfl rfl (by rw [hy2]; omega) (by unfold maxLen; omega) (by simp) ?_; intro w0 hown0 hgrow0)
 clear hw1s
 have HA0 := hideg (am_start hown0)
 have HB0 : Hid (Below w1.heap.size w1 w0) := (Below.refl w1.heap.size w1).grown hgrow0 (Nat.le_refl _) (fun k hk => by cases hk)
 clear hown0 hgrow0 b1
 go_loopw [9, 10] (fun r i wr => ∃ (k : Nat) (val : Nat -> Value), k <= H /\ i = .int .i64 k /\ r = .int .i64 (allR g p fr k) /\ AM wr w1.heap.size w1.heap.size n val (fun v => allP g p fr v k) /\ Below w1.heap.size w1 wr) (fun _ i _ => H - (intOf i).toNat)
 case atStart => exact ⟨0, _, Nat.zero_le _, rfl, rfl, HA0.out, HB0.out⟩
 case round =>
   clear HA0 HB0
   obtain ⟨k, val, hk, rfl, rfl, hA, hb⟩ := hrel
   have BR := HB1.out.below hb
   have b0 := BR.c0
   have b1 := BR.c1
   have b2 := BR.c2
   rw [HHi.out] at b0
   rw [<- HN.out] at b1
   have HA := hideg hA
   have HBb := hideg hb
   have HF := hideg BR.bel
   by_cases hkH : k < H
   · have HC := hideg (HSn.out k wr hb)
     have HRk : Hid (allR g p fr (k + 1) = max (allR g p fr k) ((plF g p fr k).2 : Int)) := rfl
     have HPk := hideg (HPl.out k)
     have HPs : Hid (∀ v, allP g p fr v (k + 1) = oneP (allP g p fr v k) k ((plF g p fr k).1.getD v 0)) := fun _ => rfl
     clear BR hA hb
     go_wp2_with fail
     refine HC.out.mono ?_
     rintro r w3 ⟨ao, ca, bo, cb, rfl, hBs, hPc, hb3⟩
     have HC2 := hideg (HPk.out ao bo ca cb w3 hBs hPc)
     have HA3 := hideg (HA.out.below hb3)
     have HB3 := hideg (HBb.out.trans (hb3.mono HBb.out.size))
     clear HC HPk hBs hPc hb3 b0 b1 b2 HA HBb HF
     go_wp2_with fail
     refine HC2.out.mono ?_
     rintro r w4 ⟨ox, cx, rfl, hX, hb4⟩
     have HA4 := hideg (HA3.out.below hb4)
     have HB4 := hideg (HB3.out.trans (hb4.mono HB3.out.size))
     have HX4 := hideg (owns_base2 hX HB3.out.size)
     clear HC2 HA3 HB3 hX hb4
     generalize allR g p fr k = r0 at HRk ⊢
     generalize (((plF g p fr k).2 : Nat) : Int) = r1 at HRk ⊢
     generalize (plF g p fr k).1 = x at HX4 HPs
     by_cases hm : r0 < r1
     · have HR2 : Hid (allR g p fr (k + 1) = r1) := by show _ = _; rw [HRk.out]; omega
       go_wp2_with fail
       go_loopw [13] (fun i wr => ∃ (j : Nat) (val : Nat -> Value), j <= n /\ i = .int .i64 j /\ AM wr w1.heap.size w1.heap.size n val (pcJ g p fr k j) /\ wr.ownsRow w1.heap.size 3 1 (.slice ox n cx) n (x.map (Value.int .i64)) /\ Below w1.heap.size w1 wr) (fun i _ => n - (intOf i).toNat)
       case atStart => exact ⟨0, val, Nat.zero_le _, rfl, by rw [pcJ_zero]; exact HA4.out, HX4.out, HB4.out⟩
       case round =>
         clear HA4 HX4 HB4
         obtain ⟨j, val2, hj, rfl, hA, hX, hb⟩ := hrel
         by_cases hjn : j < n
         · obtain ⟨xb, rfl⟩ : ∃ xb, ox = some ⟨xb, 0, none⟩ := by
             rcases hX.2 with ⟨_, h0⟩ | ⟨xb, xc, xcur, e, _⟩
             · omega
             · cases e; exact ⟨xb, rfl⟩
           have x1 := Zo.cell hX hjn
           have a0 := hA.out hjn
           have hinn := hA.inn j hjn
           rw [pcJ_at] at hinn
           have hll := allP_len g p fr j k
           have hji : (j : Int) < (n : Int) := by omega
           have hjw : IntKind.i64.wrap ((j : Int) + 1) = (j : Int) + 1 := wrap_nr _ (by omega) (by omega)
           have hkw : IntKind.i64.wrap ((k : Int) + 1) = (k : Int) + 1 := wrap_nr _ (by omega) (by omega)
           have HP1 := hideg (HPs.out j)
           have HA := hideg hA
           have HX := hideg hX
           have HBb := hideg hb
           generalize x.getD j 0 = y at x1 HP1
           by_cases hy : y = 1099511627776
           · have dy : (y == 1099511627776) = true := by simpa using hy
             have HRn : Hid (AM wr w1.heap.size w1.heap.size n val2 (pcJ g p fr k (j + 1))) := by
               show AM _ _ _ _ _ _
               rw [pcJ_skip (by rw [HP1.out, oneP_skip hy])]; exact HA.out
             clear hA hX hb hinn hy
             go_wp2
             go_roundw
             case rel => exact ⟨j + 1, val2, by omega, by go_num, HRn.out, HX.out, HBb.out⟩
             case measure => simp [intOf]; omega
           · have dy : (y == 1099511627776) = false := by simpa using hy
             obtain ⟨ob, cap, hV, hPc⟩ := pcAt_of_owns hinn
             rw [hV] at a0 hinn
             have HV := hideg hV
             have Hy := hideg hy
             have HI := hideg hinn
             generalize hl : allP g p fr j k = l at *
             have HL := hideg hl
             clear hA hX hb hV hy hinn hl
             rcases last_or l with rfl | ⟨init, f, t', x', rfl⟩
             · clear hPc
               go_wp2_with fail
               go_quiet (fail)
               have hbq : Below wr.heap.size wr (wr.drewN nq) := below_drewN (Below.refl _ wr) nq
               have Aq := HA.out.below hbq
               have a0q := Aq.out hjn
               have x1q := (hbq.cell (p := ⟨xb, j, none⟩) (World.ownsRow.lt HX.out xb rfl).2).trans x1
               rw [HV.out] at a0q
               have Iq := ownsRow_below HI.out hbq
               have HAq := hideg Aq
               have HXq := hideg (ownsRow_below HX.out hbq)
               have HBq := hideg (HBb.out.trans (hbq.mono HBb.out.size))
               have hszq := HBq.out.size
               clear Aq hbq
               generalize wr.drewN nq = wq at *
               go_wp2_with (at_builtin; refine wpList_append_own_at _ rfl _ _ 32 rfl w1.heap.size 35 i0 (.agg #[.int .i64 0, .int .i64 0, .int .i64 0]) 3 24 ((Seq.pu 32).trans Tryz.underlying32) hi hz0 hz1 hz2 rfl (by decide) _ _ _ rfl (World.ownsRow.alloc (w := wq) Iq _) ⟨wq.heap.size, 0, none⟩ 1 1 [.int .i64 k, .int .i64 ((k : Int) + 1), .int .i64 y] rfl rfl (cells_three_new _ _ _ _ _ _ rfl) (by intro u hu; simp at hu; rcases hu with rfl | rfl | rfl <;> rfl) (by unfold maxLen; omega) (by omega) (by simp; omega) ?_; intro v' w5 hown5 hgrow _ hat; have o5 := World.ownsRow.kept (World.ownsRow.alloc (w := wq) HAq.out.own _) hgrow (owns_apart HAq.out.own Iq (by decide)); have fz5 := World.ownsRow.frozenAt o5 j; have c5 := World.ownsRow.cellAt o5 j (by omega); rw [List.getElem?_map, List.getElem?_range hjn] at c5; simp only [Option.map_some] at c5; obtain ⟨b5, cp5, rfl⟩ := own_slice hown5 (by omega))
               have HRn : Hid (AM (w5.setCell ⟨w1.heap.size, j, none⟩ (.slice (some ⟨b5, 0, none⟩) (0 + 1) cp5)) w1.heap.size w1.heap.size n (updF val2 j (.slice (some ⟨b5, 0, none⟩) (0 + 1) cp5)) (pcJ g p fr k (j + 1))) := by
                 show AM _ _ _ _ _ _
                 have h1 := HAq.out.put hjn (.cells #[.int .i64 k, .int .i64 ((k : Int) + 1), .int .i64 y] 35) (p := ((k : Int), (k : Int) + 1, y)) (by rw [HV.out]; exact hgrow) (by rw [pcJ_at, HL.out, enc3_append]; exact hown5) (by rw [HV.out]; exact hat)
                 rw [pcJ_at, HL.out] at h1
                 rw [pcJ_step, HP1.out, oneP_nil Hy.out]
                 exact h1
               have HX5 := hideg (ownsRow_setBox (j := j) (u := .slice (some ⟨b5, 0, none⟩) (0 + 1) cp5) (World.ownsRow.kept (World.ownsRow.alloc (w := wq) HXq.out _) hgrow (owns_apart HXq.out Iq (by decide))) (show some xb ≠ some w1.heap.size from by rcases owns_apart HXq.out HAq.out.own (by decide) with e | e; cases e; exact e))
               have HB5 := hideg (((HBq.out.alloc hszq _).grown hgrow (by simp; omega) (fun q hq => (Iq.lt q hq).1)).setCell (p := ⟨w1.heap.size, j, none⟩) (Nat.le_refl _) (.slice (some ⟨b5, 0, none⟩) (0 + 1) cp5))
               exact ⟨⟨j + 1, _, by omega, by go_num, HRn.out, HX5.out, HB5.out⟩, by simp [intOf]; omega⟩
             · obtain ⟨L, hLn⟩ : ∃ L, L = init.length := ⟨_, rfl⟩
               have hlen : (init ++ [(f, t', x')]).length = L + 1 := by simp [hLn]
               have e3 : enc3 (init ++ [(f, t', x')]) = enc3 init ++ [.int .i64 f, .int .i64 t', .int .i64 x'] := by rw [enc3_append]; rfl
               have le3 : (enc3 init).length = L * 3 := by rw [enc3_length, hLn]
               rw [hlen] at a0 HV HI hll
               obtain ⟨b, c, e⟩ := own_slice HI.out (by omega)
               cases e
               have m1 : wr.cell? ⟨b, L * 3 + 1, none⟩ = some (.int .i64 t') := by
                 rw [World.ownsRow.cellAt HI.out (L * 3 + 1) (by omega), e3, List.getElem?_append_right (by omega), le3, show L * 3 + 1 - L * 3 = 1 from by omega]; rfl
               have m2 : wr.cell? ⟨b, L * 3 + 2, none⟩ = some (.int .i64 x') := by
                 rw [World.ownsRow.cellAt HI.out (L * 3 + 2) (by omega), e3, List.getElem?_append_right (by omega), le3, show L * 3 + 2 - L * 3 = 2 from by omega]; rfl
               have hwL : IntKind.i64.wrap ((L : Int) + 1 - 1) = (L : Int) := by rw [wrap_nr _ (by omega) (by omega)]; omega
               have hLi : (L : Int) < (L : Int) + 1 := by omega
               have HLn := hideg hLn
               have hL100 : L <= 100 := by omega
               have hgt : decide ((0 : Int) < (L : Int) + 1) = true := by rw [decide_eq_true_eq]; omega
               have fzb := World.ownsRow.frozenAt HI.out (L * 3 + 1)
               have HLen := hideg hlen
               clear hPc e3 le3 hlen hLn
               by_cases ht : t' = (k : Int)
               · have dt : (t' == (k : Int)) = true := by simpa using ht
                 by_cases hx : x' = y
                 · have dx : (x' == y) = true := by simpa using hx
                   go_wp2_with fail
                   go_quiet (fail)
                   go_wp2_with fail
                   have hbq : Below wr.heap.size wr (wr.drewN nq) := below_drewN (Below.refl _ wr) nq
                   have Aq := HA.out.below hbq
                   have M1 := Aq.more hjn (l := init) (f := f) (t := t') (x := x') (m := (k : Int) + 1) (by rw [pcJ_at, HL.out]) (b := b) (cap := cap) (by rw [HV.out, pcJ_at, HL.out, HLen.out])
                   rw [<- HLn.out] at M1
                   have M2 : AM ((wr.drewN nq).setCell ⟨b, L * 3 + 1, none⟩ (.int .i64 ((k : Int) + 1))) w1.heap.size w1.heap.size n val2 (pcJ g p fr k (j + 1)) := by
                     rw [pcJ_step, HP1.out, ht, hx, oneP_more Hy.out]
                     rw [hx] at M1
                     exact M1
                   have Xq := ownsRow_below HX.out hbq
                   have hxb : some xb ≠ some b := by
                     rcases owns_apart HX.out HI.out (by decide) with e | e
                     · cases e
                     · exact e
                   exact ⟨⟨j + 1, val2, by omega, by go_num, M2, ownsRow_setBox Xq hxb, (HBb.out.trans (hbq.mono HBb.out.size)).setCell (p := ⟨b, L * 3 + 1, none⟩) (HI.out.lt b rfl).1 _⟩, by simp [intOf]; omega⟩
                 · have dx : (x' == y) = false := by simpa using hx
                   have hneq : ¬ (t' = (k : Int) /\ x' = y) := fun h => hx h.2
                   go_wp2_with fail
                   go_quiet (fail)
                   have hbq : Below wr.heap.size wr (wr.drewN nq) := below_drewN (Below.refl _ wr) nq
                   have Aq := HA.out.below hbq
                   have a0q := Aq.out hjn
                   have x1q := (hbq.cell (p := ⟨xb, j, none⟩) (World.ownsRow.lt HX.out xb rfl).2).trans x1
                   rw [HV.out] at a0q
                   have Iq := ownsRow_below HI.out hbq
                   have HAq := hideg Aq
                   have HXq := hideg (ownsRow_below HX.out hbq)
                   have HBq := hideg (HBb.out.trans (hbq.mono HBb.out.size))
                   have hszq := HBq.out.size
                   clear Aq hbq
                   generalize wr.drewN nq = wq at *
                   go_wp2_with (at_builtin; refine wpList_append_own_at _ rfl _ _ 32 rfl w1.heap.size 35 i0 (.agg #[.int .i64 0, .int .i64 0, .int .i64 0]) 3 24 ((Seq.pu 32).trans Tryz.underlying32) hi hz0 hz1 hz2 rfl (by decide) _ _ _ rfl (World.ownsRow.alloc (w := wq) Iq _) ⟨wq.heap.size, 0, none⟩ 1 1 [.int .i64 k, .int .i64 ((k : Int) + 1), .int .i64 y] rfl rfl (cells_three_new _ _ _ _ _ _ rfl) (by intro u hu; simp at hu; rcases hu with rfl | rfl | rfl <;> rfl) (by unfold maxLen; omega) (by omega) (by simp; omega) ?_; intro v' w5 hown5 hgrow _ hat; have o5 := World.ownsRow.kept (World.ownsRow.alloc (w := wq) HAq.out.own _) hgrow (owns_apart HAq.out.own Iq (by decide)); have fz5 := World.ownsRow.frozenAt o5 j; have c5 := World.ownsRow.cellAt o5 j (by omega); rw [List.getElem?_map, List.getElem?_range hjn] at c5; simp only [Option.map_some] at c5; obtain ⟨b5, cp5, rfl⟩ := own_slice hown5 (by omega))
                   have HRn : Hid (AM (w5.setCell ⟨w1.heap.size, j, none⟩ (.slice (some ⟨b5, 0, none⟩) (L + 1 + 1) cp5)) w1.heap.size w1.heap.size n (updF val2 j (.slice (some ⟨b5, 0, none⟩) (L + 1 + 1) cp5)) (pcJ g p fr k (j + 1))) := by
                     show AM _ _ _ _ _ _
                     have h1 := HAq.out.put hjn (.cells #[.int .i64 k, .int .i64 ((k : Int) + 1), .int .i64 y] 35) (p := ((k : Int), (k : Int) + 1, y)) (by rw [HV.out]; exact hgrow) (by rw [pcJ_at, HL.out, HLen.out, enc3_append]; exact hown5) (by rw [HV.out]; exact hat)
                     rw [pcJ_at, HL.out] at h1
                     rw [pcJ_step, HP1.out, oneP_new Hy.out (fun h => hneq h)]
                     exact h1
                   have HX5 := hideg (ownsRow_setBox (j := j) (u := .slice (some ⟨b5, 0, none⟩) (L + 1 + 1) cp5) (World.ownsRow.kept (World.ownsRow.alloc (w := wq) HXq.out _) hgrow (owns_apart HXq.out Iq (by decide))) (show some xb ≠ some w1.heap.size from by rcases owns_apart HXq.out HAq.out.own (by decide) with e | e; cases e; exact e))
                   have HB5 := hideg (((HBq.out.alloc hszq _).grown hgrow (by simp; omega) (fun q hq => (Iq.lt q hq).1)).setCell (p := ⟨w1.heap.size, j, none⟩) (Nat.le_refl _) (.slice (some ⟨b5, 0, none⟩) (L + 1 + 1) cp5))
                   exact ⟨⟨j + 1, _, by omega, by go_num, HRn.out, HX5.out, HB5.out⟩, by simp [intOf]; omega⟩
               · have dt : (t' == (k : Int)) = false := by simpa using ht
                 have hneq : ¬ (t' = (k : Int) /\ x' = y) := fun h => ht h.1
                 go_wp2_with fail
                 go_quiet (fail)
                 have hbq : Below wr.heap.size wr (wr.drewN nq) := below_drewN (Below.refl _ wr) nq
                 have Aq := HA.out.below hbq
                 have a0q := Aq.out hjn
                 have x1q := (hbq.cell (p := ⟨xb, j, none⟩) (World.ownsRow.lt HX.out xb rfl).2).trans x1
                 rw [HV.out] at a0q
                 have Iq := ownsRow_below HI.out hbq
                 have HAq := hideg Aq
                 have HXq := hideg (ownsRow_below HX.out hbq)
                 have HBq := hideg (HBb.out.trans (hbq.mono HBb.out.size))
                 have hszq := HBq.out.size
                 clear Aq hbq
                 generalize wr.drewN nq = wq at *
                 go_wp2_with (at_builtin; refine wpList_append_own_at _ rfl _ _ 32 rfl w1.heap.size 35 i0 (.agg #[.int .i64 0, .int .i64 0, .int .i64 0]) 3 24 ((Seq.pu 32).trans Tryz.underlying32) hi hz0 hz1 hz2 rfl (by decide) _ _ _ rfl (World.ownsRow.alloc (w := wq) Iq _) ⟨wq.heap.size, 0, none⟩ 1 1 [.int .i64 k, .int .i64 ((k : Int) + 1), .int .i64 y] rfl rfl (cells_three_new _ _ _ _ _ _ rfl) (by intro u hu; simp at hu; rcases hu with rfl | rfl | rfl <;> rfl) (by unfold maxLen; omega) (by omega) (by simp; omega) ?_; intro v' w5 hown5 hgrow _ hat; have o5 := World.ownsRow.kept (World.ownsRow.alloc (w := wq) HAq.out.own _) hgrow (owns_apart HAq.out.own Iq (by decide)); have fz5 := World.ownsRow.frozenAt o5 j; have c5 := World.ownsRow.cellAt o5 j (by omega); rw [List.getElem?_map, List.getElem?_range hjn] at c5; simp only [Option.map_some] at c5; obtain ⟨b5, cp5, rfl⟩ := own_slice hown5 (by omega))
                 have HRn : Hid (AM (w5.setCell ⟨w1.heap.size, j, none⟩ (.slice (some ⟨b5, 0, none⟩) (L + 1 + 1) cp5)) w1.heap.size w1.heap.size n (updF val2 j (.slice (some ⟨b5, 0, none⟩) (L + 1 + 1) cp5)) (pcJ g p fr k (j + 1))) := by
                   show AM _ _ _ _ _ _
                   have h1 := HAq.out.put hjn (.cells #[.int .i64 k, .int .i64 ((k : Int) + 1), .int .i64 y] 35) (p := ((k : Int), (k : Int) + 1, y)) (by rw [HV.out]; exact hgrow) (by rw [pcJ_at, HL.out, HLen.out, enc3_append]; exact hown5) (by rw [HV.out]; exact hat)
                   rw [pcJ_at, HL.out] at h1
                   rw [pcJ_step, HP1.out, oneP_new Hy.out (fun h => hneq h)]
                   exact h1
                 have HX5 := hideg (ownsRow_setBox (j := j) (u := .slice (some ⟨b5, 0, none⟩) (L + 1 + 1) cp5) (World.ownsRow.kept (World.ownsRow.alloc (w := wq) HXq.out _) hgrow (owns_apart HXq.out Iq (by decide))) (show some xb ≠ some w1.heap.size from by rcases owns_apart HXq.out HAq.out.own (by decide) with e | e; cases e; exact e))
                 have HB5 := hideg (((HBq.out.alloc hszq _).grown hgrow (by simp; omega) (fun q hq => (Iq.lt q hq).1)).setCell (p := ⟨w1.heap.size, j, none⟩) (Nat.le_refl _) (.slice (some ⟨b5, 0, none⟩) (L + 1 + 1) cp5))
                 exact ⟨⟨j + 1, _, by omega, by go_num, HRn.out, HX5.out, HB5.out⟩, by simp [intOf]; omega⟩
         · have hje : n = j := by omega
           subst hje
           have HRn : Hid (AM wr w1.heap.size w1.heap.size n val2 (fun v => allP g p fr v (k + 1))) := hA.congr (fun v hv => by unfold pcJ; rw [if_pos hv])
           have HBb := hideg hb
           have hkw : IntKind.i64.wrap ((k : Int) + 1) = (k : Int) + 1 := wrap_nr _ (by omega) (by omega)
           clear hA hX hb
           go_wp2
           go_roundw
           case rel => exact ⟨k + 1, val2, by omega, by go_num, by rw [HR2.out], HRn.out, HBb.out⟩
           case measure => simp [intOf]; omega
     · have HR2 : Hid (allR g p fr (k + 1) = r0) := by show _ = _; rw [HRk.out]; omega
       go_wp2_with fail
       go_loopw [13] (fun i wr => ∃ (j : Nat) (val : Nat -> Value), j <= n /\ i = .int .i64 j /\ AM wr w1.heap.size w1.heap.size n val (pcJ g p fr k j) /\ wr.ownsRow w1.heap.size 3 1 (.slice ox n cx) n (x.map (Value.int .i64)) /\ Below w1.heap.size w1 wr) (fun i _ => n - (intOf i).toNat)
       case atStart => exact ⟨0, val, Nat.zero_le _, rfl, by rw [pcJ_zero]; exact HA4.out, HX4.out, HB4.out⟩
       case round =>
         clear HA4 HX4 HB4
         obtain ⟨j, val2, hj, rfl, hA, hX, hb⟩ := hrel
         by_cases hjn : j < n
         · obtain ⟨xb, rfl⟩ : ∃ xb, ox = some ⟨xb, 0, none⟩ := by
             rcases hX.2 with ⟨_, h0⟩ | ⟨xb, xc, xcur, e, _⟩
             · omega
             · cases e; exact ⟨xb, rfl⟩
           have x1 := Zo.cell hX hjn
           have a0 := hA.out hjn
           have hinn := hA.inn j hjn
           rw [pcJ_at] at hinn
           have hll := allP_len g p fr j k
           have hji : (j : Int) < (n : Int) := by omega
           have hjw : IntKind.i64.wrap ((j : Int) + 1) = (j : Int) + 1 := wrap_nr _ (by omega) (by omega)
           have hkw : IntKind.i64.wrap ((k : Int) + 1) = (k : Int) + 1 := wrap_nr _ (by omega) (by omega)
           have HP1 := hideg (HPs.out j)
           have HA := hideg hA
           have HX := hideg hX
           have HBb := hideg hb
           generalize x.getD j 0 = y at x1 HP1
           by_cases hy : y = 1099511627776
           · have dy : (y == 1099511627776) = true := by simpa using hy
             have HRn : Hid (AM wr w1.heap.size w1.heap.size n val2 (pcJ g p fr k (j + 1))) := by
               show AM _ _ _ _ _ _
               rw [pcJ_skip (by rw [HP1.out, oneP_skip hy])]; exact HA.out
             clear hA hX hb hinn hy
             go_wp2
             go_roundw
             case rel => exact ⟨j + 1, val2, by omega, by go_num, HRn.out, HX.out, HBb.out⟩
             case measure => simp [intOf]; omega
           · have dy : (y == 1099511627776) = false := by simpa using hy
             obtain ⟨ob, cap, hV, hPc⟩ := pcAt_of_owns hinn
             rw [hV] at a0 hinn
             have HV := hideg hV
             have Hy := hideg hy
             have HI := hideg hinn
             generalize hl : allP g p fr j k = l at *
             have HL := hideg hl
             clear hA hX hb hV hy hinn hl
             rcases last_or l with rfl | ⟨init, f, t', x', rfl⟩
             · clear hPc
               go_wp2_with fail
               go_quiet (fail)
               have hbq : Below wr.heap.size wr (wr.drewN nq) := below_drewN (Below.refl _ wr) nq
               have Aq := HA.out.below hbq
               have a0q := Aq.out hjn
               have x1q := (hbq.cell (p := ⟨xb, j, none⟩) (World.ownsRow.lt HX.out xb rfl).2).trans x1
               rw [HV.out] at a0q
               have Iq := ownsRow_below HI.out hbq
               have HAq := hideg Aq
               have HXq := hideg (ownsRow_below HX.out hbq)
               have HBq := hideg (HBb.out.trans (hbq.mono HBb.out.size))
               have hszq := HBq.out.size
               clear Aq hbq
               generalize wr.drewN nq = wq at *
               go_wp2_with (at_builtin; refine wpList_append_own_at _ rfl _ _ 32 rfl w1.heap.size 35 i0 (.agg #[.int .i64 0, .int .i64 0, .int .i64 0]) 3 24 ((Seq.pu 32).trans Tryz.underlying32) hi hz0 hz1 hz2 rfl (by decide) _ _ _ rfl (World.ownsRow.alloc (w := wq) Iq _) ⟨wq.heap.size, 0, none⟩ 1 1 [.int .i64 k, .int .i64 ((k : Int) + 1), .int .i64 y] rfl rfl (cells_three_new _ _ _ _ _ _ rfl) (by intro u hu; simp at hu; rcases hu with rfl | rfl | rfl <;> rfl) (by unfold maxLen; omega) (by omega) (by simp; omega) ?_; intro v' w5 hown5 hgrow _ hat; have o5 := World.ownsRow.kept (World.ownsRow.alloc (w := wq) HAq.out.own _) hgrow (owns_apart HAq.out.own Iq (by decide)); have fz5 := World.ownsRow.frozenAt o5 j; have c5 := World.ownsRow.cellAt o5 j (by omega); rw [List.getElem?_map, List.getElem?_range hjn] at c5; simp only [Option.map_some] at c5; obtain ⟨b5, cp5, rfl⟩ := own_slice hown5 (by omega))
               have HRn : Hid (AM (w5.setCell ⟨w1.heap.size, j, none⟩ (.slice (some ⟨b5, 0, none⟩) (0 + 1) cp5)) w1.heap.size w1.heap.size n (updF val2 j (.slice (some ⟨b5, 0, none⟩) (0 + 1) cp5)) (pcJ g p fr k (j + 1))) := by
                 show AM _ _ _ _ _ _
                 have h1 := HAq.out.put hjn (.cells #[.int .i64 k, .int .i64 ((k : Int) + 1), .int .i64 y] 35) (p := ((k : Int), (k : Int) + 1, y)) (by rw [HV.out]; exact hgrow) (by rw [pcJ_at, HL.out, enc3_append]; exact hown5) (by rw [HV.out]; exact hat)
                 rw [pcJ_at, HL.out] at h1
                 rw [pcJ_step, HP1.out, oneP_nil Hy.out]
                 exact h1
               have HX5 := hideg (ownsRow_setBox (j := j) (u := .slice (some ⟨b5, 0, none⟩) (0 + 1) cp5) (World.ownsRow.kept (World.ownsRow.alloc (w := wq) HXq.out _) hgrow (owns_apart HXq.out Iq (by decide))) (show some xb ≠ some w1.heap.size from by rcases owns_apart HXq.out HAq.out.own (by decide) with e | e; cases e; exact e))
               have HB5 := hideg (((HBq.out.alloc hszq _).grown hgrow (by simp; omega) (fun q hq => (Iq.lt q hq).1)).setCell (p := ⟨w1.heap.size, j, none⟩) (Nat.le_refl _) (.slice (some ⟨b5, 0, none⟩) (0 + 1) cp5))
               exact ⟨⟨j + 1, _, by omega, by go_num, HRn.out, HX5.out, HB5.out⟩, by simp [intOf]; omega⟩
             · obtain ⟨L, hLn⟩ : ∃ L, L = init.length := ⟨_, rfl⟩
               have hlen : (init ++ [(f, t', x')]).length = L + 1 := by simp [hLn]
               have e3 : enc3 (init ++ [(f, t', x')]) = enc3 init ++ [.int .i64 f, .int .i64 t', .int .i64 x'] := by rw [enc3_append]; rfl
               have le3 : (enc3 init).length = L * 3 := by rw [enc3_length, hLn]
               rw [hlen] at a0 HV HI hll
               obtain ⟨b, c, e⟩ := own_slice HI.out (by omega)
               cases e
               have m1 : wr.cell? ⟨b, L * 3 + 1, none⟩ = some (.int .i64 t') := by
                 rw [World.ownsRow.cellAt HI.out (L * 3 + 1) (by omega), e3, List.getElem?_append_right (by omega), le3, show L * 3 + 1 - L * 3 = 1 from by omega]; rfl
               have m2 : wr.cell? ⟨b, L * 3 + 2, none⟩ = some (.int .i64 x') := by
                 rw [World.ownsRow.cellAt HI.out (L * 3 + 2) (by omega), e3, List.getElem?_append_right (by omega), le3, show L * 3 + 2 - L * 3 = 2 from by omega]; rfl
               have hwL : IntKind.i64.wrap ((L : Int) + 1 - 1) = (L : Int) := by rw [wrap_nr _ (by omega) (by omega)]; omega
               have hLi : (L : Int) < (L : Int) + 1 := by omega
               have HLn := hideg hLn
               have hL100 : L <= 100 := by omega
               have hgt : decide ((0 : Int) < (L : Int) + 1) = true := by rw [decide_eq_true_eq]; omega
               have fzb := World.ownsRow.frozenAt HI.out (L * 3 + 1)
               have HLen := hideg hlen
               clear hPc e3 le3 hlen hLn
               by_cases ht : t' = (k : Int)
               · have dt : (t' == (k : Int)) = true := by simpa using ht
                 by_cases hx : x' = y
                 · have dx : (x' == y) = true := by simpa using hx
                   go_wp2_with fail
                   go_quiet (fail)
                   go_wp2_with fail
                   have hbq : Below wr.heap.size wr (wr.drewN nq) := below_drewN (Below.refl _ wr) nq
                   have Aq := HA.out.below hbq
                   have M1 := Aq.more hjn (l := init) (f := f) (t := t') (x := x') (m := (k : Int) + 1) (by rw [pcJ_at, HL.out]) (b := b) (cap := cap) (by rw [HV.out, pcJ_at, HL.out, HLen.out])
                   rw [<- HLn.out] at M1
                   have M2 : AM ((wr.drewN nq).setCell ⟨b, L * 3 + 1, none⟩ (.int .i64 ((k : Int) + 1))) w1.heap.size w1.heap.size n val2 (pcJ g p fr k (j + 1)) := by
                     rw [pcJ_step, HP1.out, ht, hx, oneP_more Hy.out]
                     rw [hx] at M1
                     exact M1
                   have Xq := ownsRow_below HX.out hbq
                   have hxb : some xb ≠ some b := by
                     rcases owns_apart HX.out HI.out (by decide) with e | e
                     · cases e
                     · exact e
                   exact ⟨⟨j + 1, val2, by omega, by go_num, M2, ownsRow_setBox Xq hxb, (HBb.out.trans (hbq.mono HBb.out.size)).setCell (p := ⟨b, L * 3 + 1, none⟩) (HI.out.lt b rfl).1 _⟩, by simp [intOf]; omega⟩
                 · have dx : (x' == y) = false := by simpa using hx
                   have hneq : ¬ (t' = (k : Int) /\ x' = y) := fun h => hx h.2
                   go_wp2_with fail
                   go_quiet (fail)
                   have hbq : Below wr.heap.size wr (wr.drewN nq) := below_drewN (Below.refl _ wr) nq
                   have Aq := HA.out.below hbq
                   have a0q := Aq.out hjn
                   have x1q := (hbq.cell (p := ⟨xb, j, none⟩) (World.ownsRow.lt HX.out xb rfl).2).trans x1
                   rw [HV.out] at a0q
                   have Iq := ownsRow_below HI.out hbq
                   have HAq := hideg Aq
                   have HXq := hideg (ownsRow_below HX.out hbq)
                   have HBq := hideg (HBb.out.trans (hbq.mono HBb.out.size))
                   have hszq := HBq.out.size
                   clear Aq hbq
                   generalize wr.drewN nq = wq at *
                   go_wp2_with (at_builtin; refine wpList_append_own_at _ rfl _ _ 32 rfl w1.heap.size 35 i0 (.agg #[.int .i64 0, .int .i64 0, .int .i64 0]) 3 24 ((Seq.pu 32).trans Tryz.underlying32) hi hz0 hz1 hz2 rfl (by decide) _ _ _ rfl (World.ownsRow.alloc (w := wq) Iq _) ⟨wq.heap.size, 0, none⟩ 1 1 [.int .i64 k, .int .i64 ((k : Int) + 1), .int .i64 y] rfl rfl (cells_three_new _ _ _ _ _ _ rfl) (by intro u hu; simp at hu; rcases hu with rfl | rfl | rfl <;> rfl) (by unfold maxLen; omega) (by omega) (by simp; omega) ?_; intro v' w5 hown5 hgrow _ hat; have o5 := World.ownsRow.kept (World.ownsRow.alloc (w := wq) HAq.out.own _) hgrow (owns_apart HAq.out.own Iq (by decide)); have fz5 := World.ownsRow.frozenAt o5 j; have c5 := World.ownsRow.cellAt o5 j (by omega); rw [List.getElem?_map, List.getElem?_range hjn] at c5; simp only [Option.map_some] at c5; obtain ⟨b5, cp5, rfl⟩ := own_slice hown5 (by omega))
                   have HRn : Hid (AM (w5.setCell ⟨w1.heap.size, j, none⟩ (.slice (some ⟨b5, 0, none⟩) (L + 1 + 1) cp5)) w1.heap.size w1.heap.size n (updF val2 j (.slice (some ⟨b5, 0, none⟩) (L + 1 + 1) cp5)) (pcJ g p fr k (j + 1))) := by
                     show AM _ _ _ _ _ _
                     have h1 := HAq.out.put hjn (.cells #[.int .i64 k, .int .i64 ((k : Int) + 1), .int .i64 y] 35) (p := ((k : Int), (k : Int) + 1, y)) (by rw [HV.out]; exact hgrow) (by rw [pcJ_at, HL.out, HLen.out, enc3_append]; exact hown5) (by rw [HV.out]; exact hat)
                     rw [pcJ_at, HL.out] at h1
                     rw [pcJ_step, HP1.out, oneP_new Hy.out (fun h => hneq h)]
                     exact h1
                   have HX5 := hideg (ownsRow_setBox (j := j) (u := .slice (some ⟨b5, 0, none⟩) (L + 1 + 1) cp5) (World.ownsRow.kept (World.ownsRow.alloc (w := wq) HXq.out _) hgrow (owns_apart HXq.out Iq (by decide))) (show some xb ≠ some w1.heap.size from by rcases owns_apart HXq.out HAq.out.own (by decide) with e | e; cases e; exact e))
                   have HB5 := hideg (((HBq.out.alloc hszq _).grown hgrow (by simp; omega) (fun q hq => (Iq.lt q hq).1)).setCell (p := ⟨w1.heap.size, j, none⟩) (Nat.le_refl _) (.slice (some ⟨b5, 0, none⟩) (L + 1 + 1) cp5))
                   exact ⟨⟨j + 1, _, by omega, by go_num, HRn.out, HX5.out, HB5.out⟩, by simp [intOf]; omega⟩
               · have dt : (t' == (k : Int)) = false := by simpa using ht
                 have hneq : ¬ (t' = (k : Int) /\ x' = y) := fun h => ht h.1
                 go_wp2_with fail
                 go_quiet (fail)
                 have hbq : Below wr.heap.size wr (wr.drewN nq) := below_drewN (Below.refl _ wr) nq
                 have Aq := HA.out.below hbq
                 have a0q := Aq.out hjn
                 have x1q := (hbq.cell (p := ⟨xb, j, none⟩) (World.ownsRow.lt HX.out xb rfl).2).trans x1
                 rw [HV.out] at a0q
                 have Iq := ownsRow_below HI.out hbq
                 have HAq := hideg Aq
                 have HXq := hideg (ownsRow_below HX.out hbq)
                 have HBq := hideg (HBb.out.trans (hbq.mono HBb.out.size))
                 have hszq := HBq.out.size
                 clear Aq hbq
                 generalize wr.drewN nq = wq at *
                 go_wp2_with (at_builtin; refine wpList_append_own_at _ rfl _ _ 32 rfl w1.heap.size 35 i0 (.agg #[.int .i64 0, .int .i64 0, .int .i64 0]) 3 24 ((Seq.pu 32).trans Tryz.underlying32) hi hz0 hz1 hz2 rfl (by decide) _ _ _ rfl (World.ownsRow.alloc (w := wq) Iq _) ⟨wq.heap.size, 0, none⟩ 1 1 [.int .i64 k, .int .i64 ((k : Int) + 1), .int .i64 y] rfl rfl (cells_three_new _ _ _ _ _ _ rfl) (by intro u hu; simp at hu; rcases hu with rfl | rfl | rfl <;> rfl) (by unfold maxLen; omega) (by omega) (by simp; omega) ?_; intro v' w5 hown5 hgrow _ hat; have o5 := World.ownsRow.kept (World.ownsRow.alloc (w := wq) HAq.out.own _) hgrow (owns_apart HAq.out.own Iq (by decide)); have fz5 := World.ownsRow.frozenAt o5 j; have c5 := World.ownsRow.cellAt o5 j (by omega); rw [List.getElem?_map, List.getElem?_range hjn] at c5; simp only [Option.map_some] at c5; obtain ⟨b5, cp5, rfl⟩ := own_slice hown5 (by omega))
                 have HRn : Hid (AM (w5.setCell ⟨w1.heap.size, j, none⟩ (.slice (some ⟨b5, 0, none⟩) (L + 1 + 1) cp5)) w1.heap.size w1.heap.size n (updF val2 j (.slice (some ⟨b5, 0, none⟩) (L + 1 + 1) cp5)) (pcJ g p fr k (j + 1))) := by
                   show AM _ _ _ _ _ _
                   have h1 := HAq.out.put hjn (.cells #[.int .i64 k, .int .i64 ((k : Int) + 1), .int .i64 y] 35) (p := ((k : Int), (k : Int) + 1, y)) (by rw [HV.out]; exact hgrow) (by rw [pcJ_at, HL.out, HLen.out, enc3_append]; exact hown5) (by rw [HV.out]; exact hat)
                   rw [pcJ_at, HL.out] at h1
                   rw [pcJ_step, HP1.out, oneP_new Hy.out (fun h => hneq h)]
                   exact h1
                 have HX5 := hideg (ownsRow_setBox (j := j) (u := .slice (some ⟨b5, 0, none⟩) (L + 1 + 1) cp5) (World.ownsRow.kept (World.ownsRow.alloc (w := wq) HXq.out _) hgrow (owns_apart HXq.out Iq (by decide))) (show some xb ≠ some w1.heap.size from by rcases owns_apart HXq.out HAq.out.own (by decide) with e | e; cases e; exact e))
                 have HB5 := hideg (((HBq.out.alloc hszq _).grown hgrow (by simp; omega) (fun q hq => (Iq.lt q hq).1)).setCell (p := ⟨w1.heap.size, j, none⟩) (Nat.le_refl _) (.slice (some ⟨b5, 0, none⟩) (L + 1 + 1) cp5))
                 exact ⟨⟨j + 1, _, by omega, by go_num, HRn.out, HX5.out, HB5.out⟩, by simp [intOf]; omega⟩
         · have hje : n = j := by omega
           subst hje
           have HRn : Hid (AM wr w1.heap.size w1.heap.size n val2 (fun v => allP g p fr v (k + 1))) := hA.congr (fun v hv => by unfold pcJ; rw [if_pos hv])
           have HBb := hideg hb
           have hkw : IntKind.i64.wrap ((k : Int) + 1) = (k : Int) + 1 := wrap_nr _ (by omega) (by omega)
           clear hA hX hb
           go_wp2
           go_roundw
           case rel => exact ⟨k + 1, val2, by omega, by go_num, by rw [HR2.out], HRn.out, HBb.out⟩
           case measure => simp [intOf]; omega
   · have hke : H = k := by omega
     subst hke
     clear BR hA hb
     go_wp2
     go_ret2
     exact ⟨w1.heap.size, val, rfl, HA.out.base HB1.out.bel.size, HF.out⟩
theorem Near_three (B : Nat) (x y z : Int) (w : World) (hB : B < w.heap.size) (c0 : w.cell? ⟨B, 0, none⟩ = some (.int .i64 x)) (c1 : w.cell? ⟨B, 1, none⟩ = some (.int .i64 y)) (c2 : w.cell? ⟨B, 2, none⟩ = some (.int .i64 z)) :
   Calls Seq.prog 86 #[.slice (some ⟨B, 0, none⟩) 3 3] w fun e w' => e = .returned (.bool (nrB x && (nrB y && nrB z))) /\ w' = w := by
 have h := Near_any (some ⟨B, 0, none⟩) 3 [x, y, z] w (.inr ⟨B, 0, rfl, hB, fun j hj => by
   match j, hj with
   | 0, _ => exact c0
   | 1, _ => exact c1
   | 2, _ => exact c2⟩) (by simp)
 simpa using h
def nr3 (x y z : Int) : Bool := nrB x && (nrB y && nrB z)
theorem nr3_iff (p : Int × Int × Int) : nr3 p.1 p.2.1 p.2.2 = true ↔ NearP p := by
 unfold nr3 NearP
 rw [Bool.and_eq_true, Bool.and_eq_true, nrB_iff, nrB_iff, nrB_iff]
theorem pnear_any (x y z : Int) (w : World) :
   Calls Seq.prog 68 #[.agg #[.int .i64 x, .int .i64 y, .int .i64 z]] w fun e w' => e = .returned (.bool (nr3 x y z)) /\ Below w.heap.size w w' := by
 go_enter Seq.func68, Tryz.ntmps68
 go_wp2_with fail
 refine (Near_three (w.heap.size + 1) x y z _ (by simp) (by simp) (by simp) (by simp)).mono ?_
 rintro e w1 ⟨rfl, rfl⟩
 go_wp2
 go_ret
 exact ⟨rfl, ptw (pal _ _) (pal _ _)⟩
def inB (a b x : Int) : Bool := decide (a <= x) && decide (x < b)
theorem phas_any (a b v t : Int) (w : World) :
   Calls Seq.prog 72 #[.agg #[.int .i64 a, .int .i64 b, .int .i64 v], .int .i64 t] w fun e w' => e = .returned (.bool (inB a b t)) /\ Below w.heap.size w w' := by
 have HB : Hid (∀ o, Below w.heap.size w (w.alloc o)) := fun o => pal w o
 by_cases g1 : a <= t
 · by_cases g2 : t < b
   · have HC : Hid (inB a b t = true) := by show _ = _; unfold inB; simp [g1, g2]
     go_enter Seq.func72, Tryz.ntmps72
     go_wp2
     go_ret
     exact ⟨ret_bool HC.out.symm, HB.out _⟩
   · have HC : Hid (inB a b t = false) := by show _ = _; unfold inB; simp [g2]
     go_enter Seq.func72, Tryz.ntmps72
     go_wp2
     go_ret
     exact ⟨ret_bool HC.out.symm, HB.out _⟩
 · have HC : Hid (inB a b t = false) := by show _ = _; unfold inB; simp [g1]
   go_enter Seq.func72, Tryz.ntmps72
   go_wp2
   go_ret
   exact ⟨ret_bool HC.out.symm, HB.out _⟩
def flB (b v a' v' : Int) : Bool := decide (b < a') || (b == a' && v != v')
theorem follows_any (a b v a' b' v' : Int) (w : World) :
   Calls Seq.prog 84 #[.agg #[.int .i64 a, .int .i64 b, .int .i64 v], .agg #[.int .i64 a', .int .i64 b', .int .i64 v']] w fun e w' => e = .returned (.bool (flB b v a' v')) /\ Below w.heap.size w w' := by
 have HB : Hid (∀ o o', Below w.heap.size w ((w.alloc o).alloc o')) := fun o o' => ptw (pal w o) (pal _ o')
 by_cases g1 : b < a'
 · have HC : Hid (flB b v a' v' = true) := by show _ = _; unfold flB; simp [g1]
   go_enter Seq.func84, Tryz.ntmps84
   go_wp2
   go_ret
   exact ⟨ret_bool HC.out.symm, HB.out _ _⟩
 · by_cases g2 : b = a'
   · by_cases g3 : v = v'
     · have HC : Hid (flB b v a' v' = false) := by show _ = _; unfold flB; simp [g2, g3]
       subst g2
       subst g3
       go_enter Seq.func84, Tryz.ntmps84
       go_wp2
       go_ret
       exact ⟨ret_bool (by first | (rw [HC.out]; simp; done) | rw [HC.out]), HB.out _ _⟩
     · have HC : Hid (flB b v a' v' = true) := by show _ = _; unfold flB; simp [g2, g3]
       have e3 : (v != v') = true := by simp [g3]
       subst g2
       go_enter Seq.func84, Tryz.ntmps84
       go_wp2
       go_ret
       exact ⟨ret_bool (by first | (rw [HC.out]; simp [e3]; done) | rw [HC.out]), HB.out _ _⟩
   · have HC : Hid (flB b v a' v' = false) := by show _ = _; unfold flB; simp [g1, g2]
     have e2 : (b == a') = false := by simp [g2]
     go_enter Seq.func84, Tryz.ntmps84
     go_wp2
     go_ret
     exact ⟨ret_bool (by rw [HC.out]), HB.out _ _⟩
theorem getD3 {m : List (Int × Int × Int)} {k : Nat} (h : k < m.length) : m.getD k (0, 0, 0) = m[k] := by simp [List.getD_eq_getElem?_getD, List.getElem?_eq_getElem h]
theorem PcAt.get {w : World} {b off : Nat} {m : List (Int × Int × Int)} {k : Nat} (hk : k < m.length) (hc : ∀ j, j < m.length -> w.cell? ⟨b, off + j * 3, none⟩ = some (.int .i64 (m.getD j (0, 0, 0)).1) /\ w.cell? ⟨b, off + j * 3 + 1, none⟩ = some (.int .i64 (m.getD j (0, 0, 0)).2.1) /\ w.cell? ⟨b, off + j * 3 + 2, none⟩ = some (.int .i64 (m.getD j (0, 0, 0)).2.2)) :
   w.cell? ⟨b, off + k * 3, none⟩ = some (.int .i64 m[k].1) /\ w.cell? ⟨b, off + k * 3 + 1, none⟩ = some (.int .i64 m[k].2.1) /\ w.cell? ⟨b, off + k * 3 + 2, none⟩ = some (.int .i64 m[k].2.2) := by
 have := hc k hk
 rwa [getD3 hk] at this
set_option maxHeartbeats 1000000 in
theorem PAt_any (ao : Option Addr) (cap : Nat) (m : List (Int × Int × Int)) (t : Int) (w : World) (hl : PcAt w ao m) (hn : m.length <= 9223372036854775807) :
   Calls Seq.prog 73 #[.slice ao m.length cap, .int .i64 t] w fun e w' => e = .returned (.tuple #[.int .i64 ((tel m t).getD 0), .bool (tel m t).isSome]) /\ Below w.heap.size w w' := by
 go_enter Seq.func73, Tryz.ntmps73
 go_wp2
 go_loopw [10] (fun i wr => ∃ k : Nat, k <= m.length /\ i = .int .i64 k /\ tel (m.take k) t = none /\ Below w.heap.size w wr) (fun i _ => m.length - (intOf i).toNat)
 case atStart => exact ⟨0, Nat.zero_le _, rfl, rfl, Below.refl _ _⟩
 case round =>
   obtain ⟨k, hk, rfl, hh, hb⟩ := hrel
   have HH : Hid (tel (m.take k) t = none) := hh
   clear hh
   by_cases hlt : k < m.length
   · rcases hl.below hb with h0 | ⟨b, off, rfl, hbw, hc⟩
     · subst h0; simp at hlt
     obtain ⟨c0, c1, c2⟩ := PcAt.get hlt hc
     have HB : Hid (Below w.heap.size w wr) := hb
     clear hc hl hb
     go_wp2_with fail
     refine (phas_any m[k].1 m[k].2.1 m[k].2.2 t _).mono ?_
     rintro e w1 ⟨rfl, hb1⟩
     have hb' : Below w.heap.size w w1 := ptw (ptw HB.out (pal _ _)) hb1
     have d2 := hb1.cell (p := ⟨wr.heap.size, 2, none⟩) (by simp)
     have d2 : w1.cell? ⟨wr.heap.size, 2, none⟩ = some (.int .i64 m[k].2.2) := d2.trans (by simp)
     clear hb1 c0 c1 c2
     cases hp : inP m[k] t with
     | true =>
       have e1 : inB m[k].1 m[k].2.1 t = true := hp
       have HC : Hid (tel m t = some m[k].2.2) := tel_take_yes hlt HH.out hp
       rw [e1]
       clear hp e1
       go_wp2
       go_ret2
       exact ⟨by rw [HC.out]; rfl, hb'⟩
     | false =>
       have e1 : inB m[k].1 m[k].2.1 t = false := hp
       have HC : Hid (tel (m.take (k + 1)) t = none) := tel_take_no hlt HH.out hp
       rw [e1]
       clear hp e1
       go_wp2
       go_roundw
       case rel => exact ⟨k + 1, by omega, by go_num, HC.out, hb'⟩
       case measure => simp [intOf]; omega
   · have hkl : k = m.length := by omega
     subst hkl
     have HC : Hid (tel m t = none) := by have := HH.out; rwa [List.take_length] at this
     go_wp2
     go_ret2
     exact ⟨by rw [HC.out]; rfl, hb⟩
structure Kp (w wr w1 : World) (b o : Nat) (p q : Int × Int × Int) : Prop where
 k0 : w1.cell? ⟨wr.heap.size, 0, none⟩ = some (.int .i64 p.1)
 k1 : w1.cell? ⟨wr.heap.size, 1, none⟩ = some (.int .i64 p.2.1)
 k2 : w1.cell? ⟨wr.heap.size, 2, none⟩ = some (.int .i64 p.2.2)
 q0 : w1.cell? ⟨b, o, none⟩ = some (.int .i64 q.1)
 q1 : w1.cell? ⟨b, o + 1, none⟩ = some (.int .i64 q.2.1)
 q2 : w1.cell? ⟨b, o + 2, none⟩ = some (.int .i64 q.2.2)
 bel : Below w.heap.size w w1
 sz : wr.heap.size + 1 <= w1.heap.size
 lt : b < wr.heap.size
theorem kp_start {w wr w1 : World} {b o : Nat} {p q : Int × Int × Int} {T : Nat} (hb : Below w.heap.size w wr) (hbw : b < wr.heap.size) (c0 : wr.cell? ⟨b, o, none⟩ = some (.int .i64 q.1)) (c1 : wr.cell? ⟨b, o + 1, none⟩ = some (.int .i64 q.2.1)) (c2 : wr.cell? ⟨b, o + 2, none⟩ = some (.int .i64 q.2.2))
   (h : Below (wr.alloc (.cells #[.int .i64 p.1, .int .i64 p.2.1, .int .i64 p.2.2] T)).heap.size (wr.alloc (.cells #[.int .i64 p.1, .int .i64 p.2.1, .int .i64 p.2.2] T)) w1) : Kp w wr w1 b o p q := by
 have hA : Below wr.heap.size wr w1 := ptw (pal _ _) h
 refine ⟨(h.cell (p := ⟨wr.heap.size, 0, none⟩) (by simp)).trans (by simp), (h.cell (p := ⟨wr.heap.size, 1, none⟩) (by simp)).trans (by simp), (h.cell (p := ⟨wr.heap.size, 2, none⟩) (by simp)).trans (by simp), ?_, ?_, ?_, ptw hb hA, by have := h.size; simpa using this, hbw⟩
 · rw [hA.cell (p := ⟨b, o, none⟩) hbw]; exact c0
 · rw [hA.cell (p := ⟨b, o + 1, none⟩) hbw]; exact c1
 · rw [hA.cell (p := ⟨b, o + 2, none⟩) hbw]; exact c2
end Go.Proofs.YtkgbgkcbflicmabGreat.Q
