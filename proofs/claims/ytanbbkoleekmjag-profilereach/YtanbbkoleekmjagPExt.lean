/-
  What extend of the program's maps answers: the last piece grows, or a piece is put behind it.
-/
import Derived.Test.YtanbbkoleekmjagPChk
import Derived.Test.YtanbbkoleekmjagPk1
namespace Go.Proofs.Ytanbbkoleekmjag
open Go.RowKit

/-- a piece behind a list: it joins the last one, or stands for itself -/
def ext (out : List (Int × Int × Int)) (p : Int × Int × Int) : List (Int × Int × Int) :=
  match out.getLast? with
  | none => out ++ [p]
  | some q => if folB q p then out ++ [p] else out.dropLast ++ [(q.1, p.2.1, q.2.2)]
theorem ext_nil (p : Int × Int × Int) : ext [] p = [] ++ [p] := rfl
theorem ext_yes {o : List (Int × Int × Int)} {q p : Int × Int × Int} (h : folB q p = true) : ext (o ++ [q]) p = o ++ [q] ++ [p] := by unfold ext; simp [h]
theorem ext_no {o : List (Int × Int × Int)} {q p : Int × Int × Int} (h : folB q p = false) : ext (o ++ [q]) p = o ++ [(q.1, p.2.1, q.2.2)] := by unfold ext; simp [h]

set_option maxRecDepth 100000 in
set_option maxHeartbeats 4000000 in
theorem extend_any (base : Nat) (v : Value) (out : List (Int × Int × Int)) (p : Int × Int × Int) (w : World) (hown : w.ownsRow base 39 3 v out.length (enc3 out)) (hbase : base ≤ w.heap.size) (hlen : out.length ≤ 1000) :
    Calls Try.prog 58 #[v, .agg #[.int .i64 p.1, .int .i64 p.2.1, .int .i64 p.2.2]] w fun e w' => ∃ v', e = .returned v' ∧ w'.ownsRow base 39 3 v' (ext out p).length (enc3 (ext out p)) ∧ Below base w w' := by
  obtain ⟨i0, hi, hz0, hz1, hz2⟩ := info_parts Try.infoPiece
  obtain ⟨vo, vc, hve, _⟩ := pcAt_of_owns hown
  rcases List.eq_nil_or_concat out with h0 | ⟨o, q, h0⟩
  · subst h0
    subst hve
    rw [ext_nil]
    simp only [List.length_nil] at hown
    go_enter Try.func58, Try.ntmps58
    go_wp2
    go_quiet (fail)
    go_wp2_with (at_builtin; refine wpList_append_own _ rfl _ _ 34 rfl base 39 i0 (.agg #[.int .i64 0, .int .i64 0, .int .i64 0]) 3 24 Try.underlying34 hi hz0 hz1 hz2 rfl (by decide) _ _ _ rfl (World.ownsRow.alloc (World.ownsRow.alloc (w := w) hown _) _) ⟨w.heap.size + 1, 0, none⟩ 1 1 [.int .i64 p.1, .int .i64 p.2.1, .int .i64 p.2.2] rfl rfl ?c1 ?c2 ?c3 ?c4 ?c5 ?_)
    case c1 => exact cells_three_new _ _ _ _ _ _ (by simp)
    case c2 => intro u hu; simp at hu; rcases hu with rfl | rfl | rfl <;> rfl
    case c3 => unfold maxLen; omega
    case c4 => omega
    case c5 => simp; omega
    intro v' w1 hown' hgrow _
    have R : w1.ownsRow base 39 3 v' ([] ++ [p]).length (enc3 ([] ++ [p])) := by
      rw [enc3_append, List.length_append]; exact hown'
    have hb' : Below base w w1 := ((below_drewN ((Below.refl base w).alloc hbase _) _).alloc (by simp; omega) _).grown hgrow (by simp; omega) (fun j hj => (hown.lt j hj).1)
    clear hown hown' hgrow
    go_wp2
    go_ret
    exact ⟨_, rfl, R, hb'⟩
  · rw [List.concat_eq_append] at h0
    have hom : out.length = o.length + 1 := by rw [h0]; simp
    have HO : Hid (out = o ++ [q]) := h0
    have fp := flat3_getD out o.length (by omega)
    have hgp : out.getD o.length (0, 0, 0) = q := by rw [h0]; simp
    rw [hgp] at fp
    rcases hown.2 with ⟨_, h9⟩ | ⟨g, vc', cur, e9, hbs, hh, h1, h2, h4, h5⟩
    · omega
    have hown' := hown
    rw [e9, hom] at hown'
    have hgl := hown'.lt g rfl
    have cq0 : w.cell? ⟨g, o.length * 3, none⟩ = some (.int .i64 q.1) := by rw [hown'.cellAt (o.length * 3) (by omega)]; simp [enc3, fp.1]
    have cq1 : w.cell? ⟨g, o.length * 3 + 1, none⟩ = some (.int .i64 q.2.1) := by rw [hown'.cellAt (o.length * 3 + 1) (by omega)]; simp [enc3, fp.2.1]
    have cq2 : w.cell? ⟨g, o.length * 3 + 2, none⟩ = some (.int .i64 q.2.2) := by rw [hown'.cellAt (o.length * 3 + 2) (by omega)]; simp [enc3, fp.2.2]
    have HOM : Hid (out.length = o.length + 1) := hom
    rw [e9, hom]
    rw [hom] at hlen
    have HOW : Hid (w.ownsRow base 39 3 (.slice (some ⟨g, 0, none⟩) (o.length + 1) vc') (o.length + 1) (enc3 out)) := hown'
    have hfz := fun W (h : Below w.heap.size w W) => (ownsRow_below hown' h).frozenAt (o.length * 3 + 1)
    have HFZ : Hid (∀ W, Below w.heap.size w W → W.frozen? ⟨g, o.length * 3 + 1, none⟩ = false) := hfz
    clear e9 h0 hgp fp hh h4 h5 hom hown hown' hve hfz h1 h2
    generalize hm : o.length = m at *
    have HM : Hid (o.length = m) := hm
    clear hm
    have hm1 : (0 : Int) ≤ (m : Int) := by omega
    have hm2 : (m : Int) < (m : Int) + 1 := by omega
    have HK : Hid (∀ w1, Below (w.alloc (.cells #[.int .i64 p.1, .int .i64 p.2.1, .int .i64 p.2.2] 39)).heap.size (w.alloc (.cells #[.int .i64 p.1, .int .i64 p.2.1, .int .i64 p.2.2] 39)) w1 → Kp w w w1 g (m * 3) p q) := fun w1 h => kp_start (Below.refl _ _) hgl.2 cq0 cq1 cq2 h
    have HFol : Hid (∀ W, Calls Try.prog 39 #[.agg #[.int .i64 q.1, .int .i64 q.2.1, .int .i64 q.2.2], .agg #[.int .i64 p.1, .int .i64 p.2.1, .int .i64 p.2.2]] W fun e w' => e = .returned (.bool (folB q p)) ∧ Below W.heap.size W w') := fun W => follows_any q.1 q.2.1 q.2.2 p.1 p.2.1 p.2.2 W
    cases hf : folB q p with
    | true =>
      have HE : Hid (ext out p = out ++ [p]) := by show _ = _; rw [HO.out, ext_yes hf]
      rw [hf] at HFol
      clear hf
      go_enter Try.func58, Try.ntmps58
      go_wp2_with fail
      generalize w.alloc (.cells #[.int .i64 p.1, .int .i64 p.2.1, .int .i64 p.2.2] 39) = W0 at HK ⊢
      have f0 : ∀ s : HeldIn W0, s.w.cell? ⟨w.heap.size, 0, none⟩ = some (.int .i64 p.1) := fun s => (HK.out _ s.h).k0
      have f1 : ∀ s : HeldIn W0, s.w.cell? ⟨w.heap.size, 1, none⟩ = some (.int .i64 p.2.1) := fun s => (HK.out _ s.h).k1
      have f2 : ∀ s : HeldIn W0, s.w.cell? ⟨w.heap.size, 2, none⟩ = some (.int .i64 p.2.2) := fun s => (HK.out _ s.h).k2
      have q0 : ∀ s : HeldIn W0, s.w.cell? ⟨g, m * 3, none⟩ = some (.int .i64 q.1) := fun s => (HK.out _ s.h).q0
      have q1 : ∀ s : HeldIn W0, s.w.cell? ⟨g, m * 3 + 1, none⟩ = some (.int .i64 q.2.1) := fun s => (HK.out _ s.h).q1
      have q2 : ∀ s : HeldIn W0, s.w.cell? ⟨g, m * 3 + 2, none⟩ = some (.int .i64 q.2.2) := fun s => (HK.out _ s.h).q2
      have hne : Nonempty (HeldIn W0) := ⟨⟨W0, Below.refl _ _⟩⟩
      refine wp_region_held W0 (Below.refl _ _) (by kernel_rfl) (by kernel_rfl) ?_
      repeat (go_big_quiet_step ((go_at_call 39; exact held_of (HFol.out _))))
      refine wpQuiet_nil ?_
      rintro _ ⟨s, rfl⟩
      have KK := HK.out _ s.h
      have hbs := KK.bel
      have k0 := KK.k0
      have k1 := KK.k1
      have k2 := KK.k2
      generalize s.w = w1 at hbs k0 k1 k2 ⊢
      have hows := ownsRow_below HOW.out hbs
      have hsz := hbs.size
      clear f0 f1 f2 q0 q1 q2 KK hne cq0 cq1 cq2 HK HFol HFZ
      go_wp2_with (at_builtin; refine wpList_append_own _ rfl _ _ 34 rfl base 39 i0 (.agg #[.int .i64 0, .int .i64 0, .int .i64 0]) 3 24 Try.underlying34 hi hz0 hz1 hz2 rfl (by decide) _ _ _ rfl (World.ownsRow.alloc (w := w1) hows _) ⟨w1.heap.size, 0, none⟩ 1 1 [.int .i64 p.1, .int .i64 p.2.1, .int .i64 p.2.2] rfl rfl ?c1 ?c2 ?c3 ?c4 ?c5 ?_)
      case c1 => exact cells_three_new _ _ _ _ _ _ (by simp)
      case c2 => intro u hu; simp at hu; rcases hu with rfl | rfl | rfl <;> rfl
      case c3 => unfold maxLen; omega
      case c4 => omega
      case c5 => simp; omega
      intro v' w2 hown2 hgrow _
      have R : w2.ownsRow base 39 3 v' (ext out p).length (enc3 (ext out p)) := by
        rw [HE.out, enc3_append, List.length_append, HOM.out]; exact hown2
      have hb' : Below base w w2 := ((hbs.mono hbase).alloc (by omega) _).grown hgrow (by simp; omega) (fun j hj => (hows.lt j hj).1)
      clear hows hown2 hgrow
      go_wp2
      go_ret
      exact ⟨_, rfl, R, hb'⟩
    | false =>
      have HE : Hid (ext out p = o ++ [(q.1, p.2.1, q.2.2)]) := by show _ = _; rw [HO.out, ext_no hf]
      rw [hf] at HFol
      clear hf
      go_enter Try.func58, Try.ntmps58
      go_wp2_with fail
      generalize w.alloc (.cells #[.int .i64 p.1, .int .i64 p.2.1, .int .i64 p.2.2] 39) = W0 at HK ⊢
      have f0 : ∀ s : HeldIn W0, s.w.cell? ⟨w.heap.size, 0, none⟩ = some (.int .i64 p.1) := fun s => (HK.out _ s.h).k0
      have f1 : ∀ s : HeldIn W0, s.w.cell? ⟨w.heap.size, 1, none⟩ = some (.int .i64 p.2.1) := fun s => (HK.out _ s.h).k1
      have f2 : ∀ s : HeldIn W0, s.w.cell? ⟨w.heap.size, 2, none⟩ = some (.int .i64 p.2.2) := fun s => (HK.out _ s.h).k2
      have q0 : ∀ s : HeldIn W0, s.w.cell? ⟨g, m * 3, none⟩ = some (.int .i64 q.1) := fun s => (HK.out _ s.h).q0
      have q1 : ∀ s : HeldIn W0, s.w.cell? ⟨g, m * 3 + 1, none⟩ = some (.int .i64 q.2.1) := fun s => (HK.out _ s.h).q1
      have q2 : ∀ s : HeldIn W0, s.w.cell? ⟨g, m * 3 + 2, none⟩ = some (.int .i64 q.2.2) := fun s => (HK.out _ s.h).q2
      have hne : Nonempty (HeldIn W0) := ⟨⟨W0, Below.refl _ _⟩⟩
      refine wp_region_held W0 (Below.refl _ _) (by kernel_rfl) (by kernel_rfl) ?_
      repeat (go_big_quiet_step ((go_at_call 39; exact held_of (HFol.out _))))
      refine wpQuiet_nil ?_
      rintro _ ⟨s, rfl⟩
      have KK := HK.out _ s.h
      have hbs := KK.bel
      have k1 := KK.k1
      have c1 := KK.q1
      generalize s.w = w1 at hbs k1 c1 ⊢
      have hows := ownsRow_below HOW.out hbs
      have fz := HFZ.out w1 hbs
      have hsz := hbs.size
      have HR : Hid ((w1.setCell ⟨g, m * 3 + 1, none⟩ (.int .i64 p.2.1)).ownsRow base 39 3 (.slice (some ⟨g, 0, none⟩) (m + 1) vc') (ext out p).length (enc3 (ext out p)) ∧ Below base w (w1.setCell ⟨g, m * 3 + 1, none⟩ (.int .i64 p.2.1))) := by
        have hst := (hows.stored (m * 3 + 1) (.int .i64 p.2.1)).1
        have he : (enc3 out).set (m * 3 + 1) (.int .i64 p.2.1) = enc3 (o ++ [(q.1, p.2.1, q.2.2)]) := by
          rw [HO.out, enc3_append, enc3_append, List.set_append_right _ _ (by rw [enc3_length, HM.out]; omega), enc3_length, HM.out, show m * 3 + 1 - m * 3 = 1 by omega]
          rfl
        rw [he] at hst
        have hlen' : (o ++ [(q.1, p.2.1, q.2.2)]).length = m + 1 := by simp [HM.out]
        rw [HE.out, hlen']
        exact ⟨hst, (hbs.mono hbase).setCell hgl.1 _⟩
      clear f0 f1 f2 q0 q1 q2 KK hne cq0 cq1 cq2 HK HFol hows
      go_wp2
      go_ret
      exact ⟨_, rfl, HR.out.1, HR.out.2⟩

end Go.Proofs.Ytanbbkoleekmjag
