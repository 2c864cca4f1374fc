/-
  What spread of the program tells: numbers that no arc makes less.
-/
import Derived.Test.YtnopdnajlbaccaePlOf
namespace Go.Proofs.Ytnopdnajlbaccae
open Go.RowKit

/-- an arc's ends as places -/
theorem arc_parts {arcs : List Ac} {n k : Nat} (hE : EndsIn n arcs) (hk : k < arcs.length) : ∃ (A B : Nat), A < n ∧ B < n ∧ arcs[k].1 = (A : Int) ∧ arcs[k].2.1 = (B : Int) := by
  have h := hE _ (List.getElem_mem hk)
  exact ⟨arcs[k].1.toNat, arcs[k].2.1.toNat, by omega, by omega, by omega, by omega⟩

set_option maxRecDepth 100000 in
set_option maxHeartbeats 4000000 in
theorem spread_any (g : Nat) (caps : Array Value) (p : Ac → Int) (eg : ∀ args w, (callFunc g args).run Try.prog w = .ok (.enter g args) w) (base gb n : Nat) (bo : Option Addr) (cb : Nat) (first x0 : List Int) (arcs : List Ac) (w : World)
    (hZ : Zo w base gb n n x0) (hR : PcAt w bo arcs) (hne : arcs ≠ [] → ∀ b off, bo = some ⟨b, off, none⟩ → b ≠ gb) (F : Fine first arcs p) (M : Mid first arcs p x0) (hn : first.length = n) (h60 : arcs.length ≤ 60)
    (hf : ∀ a ∈ arcs, ∀ wq, Calls Try.prog g (#[.agg #[.int .i64 a.1, .int .i64 a.2.1, .int .i64 a.2.2]] ++ caps) wq fun e w' => e = .returned (.int .i64 (p a)) ∧ Below wq.heap.size wq w') :
    Calls Try.prog 33 #[.slice (some ⟨gb, 0, none⟩) n n, .slice bo arcs.length cb, .func (.func g) #[] caps] w fun e w' => e = .returned (.tuple #[]) ∧ ∃ z, Best first arcs p z ∧ Zo w' base gb n n z ∧ w.grownBy w' (some gb) := by
  have HF := hidep hf
  have HFine := hidep F
  have HEn := hidep (show EndsIn n arcs by rw [← hn]; exact F.en)
  clear hf
  have HM := hidep M
  have HZ0 := hidep hZ
  clear F M hZ
  go_enter Try.func33, Try.ntmps33
  go_wp2
  go_loopw [6, 8, 9] (fun ch _ _ wr => ∃ (c : Bool) (x : List Int), ch = .bool c ∧ Mid first arcs p x ∧ (c = false → Best first arcs p x) ∧ Zo wr base gb n n x ∧ w.grownBy wr (some gb)) (fun ch _ _ wr => 2 * msum (rdL wr gb n) + flagOf ch)
  case atStart => exact ⟨true, x0, rfl, HM.out, (fun h => by cases h), HZ0.out, gby_refl _ _⟩
  case round =>
    obtain ⟨c, x, rfl, hM, hBst, hZ, hG⟩ := hrel
    cases c with
    | false =>
      have HB := hidep (hBst rfl)
      go_wp2
      go_end0
      exact ⟨rfl, x, HB.out, hZ, hG⟩
    | true =>
      have HMx := hidep hM
      have HZx := hidep hZ
      have HGx := hidep hG
      clear hBst hM hZ hG
      obtain ⟨wo, rfl⟩ : ∃ x, x = wr := ⟨_, rfl⟩
      go_wp2
      go_loopw [6, 8, 9, 13] (fun ch _ _ i wr => ∃ (k : Nat) (c : Bool) (z : List Int), k ≤ arcs.length ∧ i = .int .i64 k ∧ ch = .bool c ∧ Turn first arcs p x z c k ∧ Zo wr base gb n n z ∧ w.grownBy wr (some gb)) (fun _ _ _ i _ => arcs.length - (intOf i).toNat)
      case atStart => exact ⟨0, false, x, Nat.zero_le _, rfl, rfl, turn_start HMx.out, HZx.out, HGx.out⟩
      case round =>
        obtain ⟨k, c, z, hk, rfl, rfl, hT, hZ, hG⟩ := hrel
        have HT := hidep hT
        have HZ := hidep hZ
        have HG := hidep hG
        by_cases hlt : k < arcs.length
        · rcases hR.grown hG (hne (fun h => by subst h; simp at hlt)) with h0 | ⟨b, off, rfl, hbr, hc⟩
          · subst h0; simp at hlt
          obtain ⟨c0, c1, c2⟩ := PcAt.at3 hlt hc
          obtain ⟨A, B, hA, hB, eA, eB⟩ := arc_parts HEn.out hlt
          have hm : arcs[k] ∈ arcs := List.getElem_mem hlt
          have hcl := HF.out _ hm
          have hp := HFine.out.pl _ hm
          have hvA : vat z arcs[k].1 = z.getD A 0 := by unfold vat; rw [eA]; rfl
          have hvB : vat z arcs[k].2.1 = z.getD B 0 := by unfold vat; rw [eB]; rfl
          have b1 := hT.mid.lo HFine.out A (by omega)
          have b2 := hT.mid.hi HFine.out A (by omega)
          have zA := hZ.cell hA
          have zB := hZ.cell hB
          have fB := World.ownsRow.frozenAt hZ B
          have HLS : Hid (z.getD A 0 + p arcs[k] < z.getD B 0 → Turn first arcs p x (z.set B (z.getD A 0 + p arcs[k])) true (k + 1)) := by
            intro h
            have := turn_less HFine.out HT.out hlt (by rw [hvA, hvB]; exact h)
            rw [hvA, eB] at this
            exact this
          have HST : Hid (¬ z.getD A 0 + p arcs[k] < z.getD B 0 → Turn first arcs p x z c (k + 1)) := fun h => turn_stay HT.out hlt (by rw [hvA, hvB]; exact h)
          rw [eA] at c0
          rw [eB] at c1
          rw [eA, eB] at hcl
          clear hT hvA hvB eA eB hm
          generalize p arcs[k] = pa at *
          generalize arcs[k].2.2 = ac at *
          generalize z.getD A 0 = tA at *
          generalize hzB : z.getD B 0 = tB at *
          clear hzB hc
          have hgl := World.ownsRow.lt hZ gb rfl
          have hiA : (A : Int) < (n : Int) := by omega
          have hiB : (B : Int) < (n : Int) := by omega
          have hw1 : IntKind.i64.wrap (tA + pa) = tA + pa := wrap_small _ (by omega) (by omega)
          have hne2 : Nonempty (HeldIn (wr.alloc (.cells #[.int .i64 (A : Int), .int .i64 (B : Int), .int .i64 ac] 47))) := ⟨⟨_, Below.refl _ _⟩⟩
          have f0 : ∀ s : HeldIn (wr.alloc (.cells #[.int .i64 (A : Int), .int .i64 (B : Int), .int .i64 ac] 47)), s.w.cell? ⟨wr.heap.size, 0, none⟩ = some (.int .i64 A) := fun s => by rw [s.h.cell (p := ⟨wr.heap.size, 0, none⟩) (by simp)]; simp
          have f1 : ∀ s : HeldIn (wr.alloc (.cells #[.int .i64 (A : Int), .int .i64 (B : Int), .int .i64 ac] 47)), s.w.cell? ⟨wr.heap.size, 1, none⟩ = some (.int .i64 B) := fun s => by rw [s.h.cell (p := ⟨wr.heap.size, 1, none⟩) (by simp)]; simp
          have f2 : ∀ s : HeldIn (wr.alloc (.cells #[.int .i64 (A : Int), .int .i64 (B : Int), .int .i64 ac] 47)), s.w.cell? ⟨wr.heap.size, 2, none⟩ = some (.int .i64 ac) := fun s => by rw [s.h.cell (p := ⟨wr.heap.size, 2, none⟩) (by simp)]; simp
          have f3 : ∀ s : HeldIn (wr.alloc (.cells #[.int .i64 (A : Int), .int .i64 (B : Int), .int .i64 ac] 47)), s.w.cell? ⟨gb, A, none⟩ = some (.int .i64 tA) := fun s => by rw [s.h.cell (p := ⟨gb, A, none⟩) (by simp; omega), (pal wr _).cell (p := ⟨gb, A, none⟩) hgl.2]; exact zA
          have HQ : Hid (∀ w1, Below (wr.alloc (.cells #[.int .i64 (A : Int), .int .i64 (B : Int), .int .i64 ac] 47)).heap.size (wr.alloc (.cells #[.int .i64 (A : Int), .int .i64 (B : Int), .int .i64 ac] 47)) w1 → w1.cell? ⟨wr.heap.size, 1, none⟩ = some (.int .i64 B) ∧ w1.cell? ⟨gb, B, none⟩ = some (.int .i64 tB) ∧ w1.frozen? ⟨gb, B, none⟩ = false ∧ wr.heap.size < w1.heap.size ∧ gb < w1.heap.size ∧ Zo w1 base gb n n z ∧ w.grownBy w1 (some gb)) := by
            intro w1 h1
            have h2 := ptw (pal wr _) h1
            have hz := h1.size
            simp only [World.size_alloc] at hz
            exact ⟨by rw [h1.cell (p := ⟨wr.heap.size, 1, none⟩) (by simp)]; simp, by rw [h2.cell (p := ⟨gb, B, none⟩) hgl.2]; exact zB, by rw [h2.frozen (p := ⟨gb, B, none⟩) hgl.2]; exact fB, by omega, by omega, HZ.out.below h2, gby_trans HG.out (gby_of_below h2 _)⟩
          clear hZ hG zA zB fB hR
          go_wp2_with fail
          refine wp_region_held _ (Below.refl _ _) (by kernel_rfl) (by kernel_rfl) ?_
          repeat (go_big_quiet_step ((go_at_fn g; exact held_of (hcl _))))
          refine wpQuiet_nil ?_
          rintro _ ⟨s, rfl⟩
          have hbs := HQ.out _ s.h
          generalize s.w = w1 at hbs ⊢
          obtain ⟨q1, q2, q3, q4, q5, q6, q7⟩ := hbs
          have HZ1 := hidep q6
          have HG1 := hidep q7
          clear f0 f1 f2 f3 hne2 HQ q6 q7 hcl s c0 c1 c2
          by_cases hls : tA + pa < tB
          · have HT' := hidep (HLS.out (by omega))
            go_wp2
            go_roundw
            case rel => exact ⟨k + 1, true, _, by omega, by go_num, rfl, HT'.out, HZ1.out.set B _, gby_trans HG1.out (gby_set _ _ _ _)⟩
            case measure => simp [intOf]; omega
          · have HT' := hidep (HST.out (by omega))
            go_wp2
            go_roundw
            case rel => exact ⟨k + 1, c, _, by omega, by go_num, rfl, HT'.out, HZ1.out, HG1.out⟩
            case measure => simp [intOf]; omega
        · have hkl : k = arcs.length := by omega
          subst hkl
          have HRD := hidep hZ.rd
          have HRO := hidep HZx.out.rd
          clear hT hZ hG
          go_wp2
          go_roundw
          case rel => exact ⟨c, z, rfl, HT.out.mid, (fun h => by subst h; exact turn_end HT.out), HZ.out, HG.out⟩
          case measure =>
            rw [HRD.out, HRO.out]
            cases c with
            | false => rw [(HT.out.same rfl).1]; simp [flagOf]
            | true => have := HT.out.less rfl; simp [flagOf]; omega

end Go.Proofs.Ytnopdnajlbaccae
