/-
  What holds of least sums, of labels and of counts of arcs: the plain mathematics, without any program.
-/
import Derived.Test.YtnopdnajlbaccaePlMath
namespace Go.Proofs.Ytnopdnajlbaccae

/-- what is told comes by some arc -/
theorem best_by {first : List Int} {arcs : List Ac} {p : Ac → Int} {x : List Int} (f : Fine first arcs p) (B : Best first arcs p x) {v : Nat} (hv : v < first.length) (hlt : x.getD v 0 < first.getD v 0) : ∃ a ∈ arcs, a.2.1 = (v : Int) ∧ vat x a.1 + p a = x.getD v 0 := by
  apply Classical.byContradiction
  intro hn
  have hA : Adm first arcs p (fun u => if u = v then x.getD v 0 + 1 else x.getD u 0) := by
    refine ⟨fun u hu => ?_, fun a ha => ?_⟩
    · by_cases e : u = v
      · subst e; simp only [if_true]; omega
      · simp only [e, if_false]; exact B.mid.le u hu
    · have h1 := B.cl a ha
      have h2 := f.en a ha
      have h3 := f.pl a ha
      unfold vat at h1
      by_cases e : a.2.1.toNat = v
      · have hne : vat x a.1 + p a ≠ x.getD v 0 := fun hh => hn ⟨a, ha, by omega, hh⟩
        unfold vat at hne
        rw [e] at h1
        simp only [e, if_true]
        by_cases e2 : a.1.toNat = v
        · simp only [e2, if_true]; omega
        · simp only [e2, if_false]; omega
      · simp only [e, if_false]
        by_cases e2 : a.1.toNat = v
        · simp only [e2, if_true]; rw [e2] at h1; omega
        · simp only [e2, if_false]; exact h1
  have := B.mid.most _ hA v hv
  simp only [if_true] at this
  omega

theorem mem_all_le : ∀ (m : Nat) (l : List Int), (∀ k : Nat, k < m → (k : Int) ∈ l) → m ≤ l.length
  | 0, _, _ => Nat.zero_le _
  | m + 1, l, h => by
    have h1 := h m (by omega)
    have h2 := mem_all_le m (l.erase (m : Int)) (fun k hk => (List.mem_erase_of_ne (by omega)).2 (h k (by omega)))
    rw [List.length_erase_of_mem h1] at h2
    have := List.length_pos_of_mem h1
    omega

section
variable {al : List Bool} {arcs : List Ac} {fr : Int} {H C L : List Int}

theorem from_le {x : List Int} {p : Ac → Int} (B : Mid (firstL al (fromF fr)) arcs p x) {v : Nat} (hv : v < al.length) : x.getD v 0 ≤ 1099511627776 := by
  have := B.le v (by rw [firstL_length]; exact hv)
  rw [firstL_getD _ _ _ hv] at this
  have := fromF_bounds fr v
  split at * <;> omega
/-- below a sum of hops that there is, is the next one -/
theorem hops_pred (S : Shot al arcs) (B : Best (firstL al (fromF fr)) arcs (fun _ => 1) H) {k v : Nat} (hv : v < al.length) (hk : H.getD v 0 = (k : Int) + 1) (hlt : (k : Int) + 1 < 1099511627776) : ∃ u, u < al.length ∧ H.getD u 0 = (k : Int) := by
  have f : Fine (firstL al (fromF fr)) arcs (fun _ => 1) := S.fine (fun v _ => fromF_bounds fr v) (fun a _ => by omega)
  have hb := best_by f B (v := v) (by rw [firstL_length]; exact hv) (by
    rw [firstL_getD _ _ _ hv, hk]
    have hle := B.mid.le v (by rw [firstL_length]; exact hv)
    rw [firstL_getD _ _ _ hv, hk] at hle
    unfold fromF at hle ⊢
    split at hle
    · rename_i h1
      rw [if_pos h1]
      split at hle
      · omega
      · rename_i h2; rw [if_neg h2]; exact hlt
    · rename_i h1; rw [if_neg h1]; exact hlt)
  obtain ⟨a, ha, _, h2⟩ := hb
  have he := S.en a ha
  rw [hk] at h2
  unfold vat at h2
  exact ⟨a.1.toNat, by omega, by omega⟩
/-- all sums of hops below one that there is, are there -/
theorem hops_down (S : Shot al arcs) (B : Best (firstL al (fromF fr)) arcs (fun _ => 1) H) (k : Nat) : ∀ (v : Nat), v < al.length → H.getD v 0 = (k : Int) → (k : Int) < 1099511627776 → ∀ j : Nat, j ≤ k → (j : Int) ∈ H := by
  have hl : H.length = al.length := by rw [B.mid.len, firstL_length]
  induction k with
  | zero =>
    intro v hv hk hlt j hj
    obtain rfl : j = 0 := by omega
    rw [← hk, List.getD_eq_getElem?_getD, List.getElem?_eq_getElem (by omega)]
    exact List.getElem_mem (by omega)
  | succ k ih =>
    intro v hv hk hlt j hj
    by_cases e : j = k + 1
    · subst e
      rw [← hk, List.getD_eq_getElem?_getD, List.getElem?_eq_getElem (by omega)]
      exact List.getElem_mem (by omega)
    · obtain ⟨u, hu, hku⟩ := hops_pred S B (k := k) hv (by omega) (by omega)
      exact ih u hu hku (by omega) j (by omega)
theorem hops_small (S : Shot al arcs) (B : Best (firstL al (fromF fr)) arcs (fun _ => 1) H) {v : Nat} (hv : v < al.length) (h : H.getD v 0 < 1099511627776) : H.getD v 0 < (al.length : Int) := by
  have hl : H.length = al.length := by rw [B.mid.len, firstL_length]
  have f : Fine (firstL al (fromF fr)) arcs (fun _ => 1) := S.fine (fun v _ => fromF_bounds fr v) (fun a _ => by omega)
  have h0 := B.mid.lo f v (by rw [firstL_length]; exact hv)
  obtain ⟨k, hk⟩ : ∃ k : Nat, H.getD v 0 = (k : Int) := ⟨(H.getD v 0).toNat, by omega⟩
  have := mem_all_le (k + 1) H (fun j hj => hops_down S B k v hv hk (by omega) j (by omega))
  omega
theorem cost_le_hops (S : Shot al arcs) (BH : Best (firstL al (fromF fr)) arcs (fun _ => 1) H) (BC : Best (firstL al (fromF fr)) arcs (fun a => a.2.2) C) {v : Nat} (hv : v < al.length) : C.getD v 0 ≤ 1000 * H.getD v 0 := by
  have fC : Fine (firstL al (fromF fr)) arcs (fun a => a.2.2) := S.fine (fun v _ => fromF_bounds fr v) S.cost
  have hA : Adm (firstL al (fromF fr)) arcs (fun _ => 1) (fun u => (C.getD u 0 + 999) / 1000) := by
    refine ⟨fun u hu => ?_, fun a ha => ?_⟩
    · have h1 := BC.mid.le u hu
      have h0 := BC.mid.lo fC u hu
      rw [firstL_length] at hu
      rw [firstL_getD _ _ _ hu] at h1 ⊢
      have := fromF_bounds fr u
      unfold fromF at *
      split at h1
      · rename_i h2
        rw [if_pos h2]
        split at h1
        · rename_i h3; rw [if_pos h3]; show (C.getD u 0 + 999) / 1000 ≤ 0; omega
        · rename_i h3; rw [if_neg h3]; show (C.getD u 0 + 999) / 1000 ≤ 1099511627776; omega
      · rename_i h2
        rw [if_neg h2]; show (C.getD u 0 + 999) / 1000 ≤ 1099511627776; omega
    · have h1 := BC.cl a ha
      have h2 := S.cost a ha
      unfold vat at h1
      show (C.getD a.2.1.toNat 0 + 999) / 1000 ≤ (C.getD a.1.toNat 0 + 999) / 1000 + 1
      omega
  have : (C.getD v 0 + 999) / 1000 ≤ H.getD v 0 := BH.mid.most _ hA v (by rw [firstL_length]; exact hv)
  omega
theorem cost_inf (S : Shot al arcs) (BH : Best (firstL al (fromF fr)) arcs (fun _ => 1) H) (BC : Best (firstL al (fromF fr)) arcs (fun a => a.2.2) C) {v : Nat} (hv : v < al.length) (h : H.getD v 0 = 1099511627776) : C.getD v 0 = 1099511627776 := by
  have hA : Adm (firstL al (fromF fr)) arcs (fun a => a.2.2) (fun u => if H.getD u 0 = 1099511627776 then 1099511627776 else 0) := by
    refine ⟨fun u hu => ?_, fun a ha => ?_⟩
    · have h1 := BH.mid.le u hu
      rw [firstL_length] at hu
      rw [firstL_getD _ _ _ hu] at h1 ⊢
      unfold fromF at *
      show (if H.getD u 0 = 1099511627776 then (1099511627776 : Int) else 0) ≤ _
      repeat' split
      all_goals simp_all
      all_goals omega
    · have h1 := BH.cl a ha
      have h2 := S.cost a ha
      have h3 := S.en a ha
      have nv := S.nv
      unfold vat at h1
      show (if H.getD a.2.1.toNat 0 = 1099511627776 then (1099511627776 : Int) else 0) ≤ (if H.getD a.1.toNat 0 = 1099511627776 then (1099511627776 : Int) else 0) + a.2.2
      by_cases e1 : H.getD a.1.toNat 0 = 1099511627776
      · rw [if_pos e1]; split <;> omega
      · have h4 := from_le BH.mid (v := a.1.toNat) (by omega)
        have h5 := hops_small S BH (v := a.1.toNat) (by omega) (by omega)
        rw [if_neg e1, if_neg (by omega)]; omega
  have h1 := BC.mid.most _ hA v (by rw [firstL_length]; exact hv)
  have h2 := from_le BC.mid hv
  simp only [h, if_true] at h1
  omega
theorem inf_iff (S : Shot al arcs) (BH : Best (firstL al (fromF fr)) arcs (fun _ => 1) H) (BC : Best (firstL al (fromF fr)) arcs (fun a => a.2.2) C) {v : Nat} (hv : v < al.length) : C.getD v 0 = 1099511627776 ↔ H.getD v 0 = 1099511627776 := by
  refine ⟨fun h => ?_, cost_inf S BH BC hv⟩
  have h1 := from_le BH.mid hv
  apply Classical.byContradiction
  intro hn
  have h2 := hops_small S BH hv (by omega)
  have h3 := cost_le_hops S BH BC hv
  have := S.nv
  omega
theorem cost_by (S : Shot al arcs) (BC : Best (firstL al (fromF fr)) arcs (fun a => a.2.2) C) {v : Nat} (hv : v < al.length) (hf : (v : Int) ≠ fr) (h : C.getD v 0 < 1099511627776) : ∃ a ∈ arcs, a.2.1 = (v : Int) ∧ vat C a.1 < 1099511627776 ∧ vat C a.1 + a.2.2 = C.getD v 0 := by
  have fC : Fine (firstL al (fromF fr)) arcs (fun a => a.2.2) := S.fine (fun v _ => fromF_bounds fr v) S.cost
  obtain ⟨a, ha, h1, h2⟩ := best_by fC BC (v := v) (by rw [firstL_length]; exact hv) (by
    rw [firstL_getD _ _ _ hv]
    unfold fromF
    rw [if_neg hf]
    split <;> exact h)
  have := S.cost a ha
  exact ⟨a, ha, h1, by omega, h2⟩
theorem label_arc (BL : Best (firstL al (fun v => v)) (both arcs) (fun _ => 0) L) {a : Ac} (ha : a ∈ arcs) : vat L a.1 = vat L a.2.1 := by
  have h1 := BL.cl a (mem_both.2 ⟨a, ha, .inl rfl⟩)
  have h2 := BL.cl (a.2.1, a.1, a.2.2) (mem_both.2 ⟨a, ha, .inr rfl⟩)
  simp only at h1 h2
  omega
theorem label_from (S : Shot al arcs) (BC : Best (firstL al (fromF fr)) arcs (fun a => a.2.2) C) (BL : Best (firstL al (fun v => v)) (both arcs) (fun _ => 0) L) {v : Nat} (hv : v < al.length) (h : C.getD v 0 < 1099511627776) : L.getD v 0 = vat L fr := by
  have hA : Adm (firstL al (fromF fr)) arcs (fun a => a.2.2) (fun u => if L.getD u 0 = vat L fr then 0 else 1099511627776) := by
    refine ⟨fun u hu => ?_, fun a ha => ?_⟩
    · rw [firstL_length] at hu
      rw [firstL_getD _ _ _ hu]
      show (if L.getD u 0 = vat L fr then (0 : Int) else 1099511627776) ≤ _
      unfold fromF
      by_cases e : (u : Int) = fr
      · have : L.getD u 0 = vat L fr := by unfold vat; rw [← e]; rfl
        rw [if_pos this]
        repeat' split
        all_goals omega
      · rw [if_neg e]
        repeat' split
        all_goals omega
    · have h1 := label_arc BL ha
      have h2 := S.cost a ha
      unfold vat at h1
      show (if L.getD a.2.1.toNat 0 = vat L fr then (0 : Int) else 1099511627776) ≤ (if L.getD a.1.toNat 0 = vat L fr then (0 : Int) else 1099511627776) + a.2.2
      rw [h1]
      omega
  have : (if L.getD v 0 = vat L fr then (0 : Int) else 1099511627776) ≤ C.getD v 0 := BC.mid.most _ hA v (by rw [firstL_length]; exact hv)
  split at this
  · assumption
  · omega
theorem label_alive (S : Shot al arcs) (BL : Best (firstL al (fun v => v)) (both arcs) (fun _ => 0) L) {v : Nat} (hv : v < al.length) : if al.getD v false = true then L.getD v 0 ≤ (v : Int) else L.getD v 0 = 1099511627776 := by
  have h1 := BL.mid.le v (by rw [firstL_length]; exact hv)
  rw [firstL_getD _ _ _ hv] at h1
  by_cases e : al.getD v false = true
  · rw [if_pos e] at h1 ⊢; exact h1
  · rw [if_neg e] at h1 ⊢
    have hA : Adm (firstL al (fun v => v)) (both arcs) (fun _ => 0) (fun u => if al.getD u false = true then 0 else 1099511627776) := by
      refine ⟨fun u hu => ?_, fun b hb => ?_⟩
      · rw [firstL_length] at hu
        rw [firstL_getD _ _ _ hu]
        show (if al.getD u false = true then (0 : Int) else 1099511627776) ≤ _
        split <;> omega
      · have go : al.getD b.2.1.toNat false = true := by
          obtain ⟨a, ha, rfl | rfl⟩ := mem_both.1 hb
          · exact ((alv_iff _ _).1 (S.ends _ ha).2).2.2
          · exact ((alv_iff _ _).1 (S.ends a ha).1).2.2
        show (if al.getD b.2.1.toNat false = true then (0 : Int) else 1099511627776) ≤ (if al.getD b.1.toNat false = true then (0 : Int) else 1099511627776) + 0
        rw [if_pos go]
        split <;> omega
    have := BL.mid.most _ hA v (by rw [firstL_length]; exact hv)
    simp only [e] at this
    have : 1099511627776 ≤ L.getD v 0 := by simpa using this
    omega
theorem label_lo (S : Shot al arcs) (BL : Best (firstL al (fun v => v)) (both arcs) (fun _ => 0) L) {v : Nat} (hv : v < al.length) : 0 ≤ L.getD v 0 := by
  have nv := S.nv
  have F : Fine (firstL al (fun v => v)) (both arcs) (fun _ => 0) := S.both (fun v hv => by omega) (fun _ _ => by omega) (fun _ => rfl)
  exact BL.mid.lo F v (by rw [firstL_length]; exact hv)
end

/-- the sum of what is told of those of which something is told, of the first k -/
def dsum : List Int → Int
  | [] => 0
  | d :: l => (if d = 1099511627776 then 0 else d) + dsum l
theorem dsum_append : ∀ (a b : List Int), dsum (a ++ b) = dsum a + dsum b
  | [], b => by simp [dsum]
  | x :: a, b => by simp only [List.cons_append, dsum, dsum_append a b]; omega
theorem dsum_take {l : List Int} {k : Nat} (hk : k < l.length) : dsum (l.take (k + 1)) = dsum (l.take k) + (if l[k] = 1099511627776 then 0 else l[k]) := by
  rw [List.take_succ_eq_append_getElem hk, dsum_append]; simp [dsum]
/-- how many arcs leave the alive ones among the vertices of a list -/
theorem dsum_map (al : List Bool) (arcs : List Ac) (hn : arcs.length ≤ 30) : ∀ vs : List Nat, dsum (vs.map fun v => if al.getD v false = true then degF arcs v else 1099511627776) = ((vs.map fun v => if al.getD v false = true then arcs.countP (fun a => decide (a.1 = (v : Int))) else 0).sum : Nat)
  | [] => rfl
  | v :: vs => by
    have ih := dsum_map al arcs hn vs
    have hc : arcs.countP (fun a => decide (a.1 = (v : Int))) ≤ arcs.length := List.countP_le_length
    simp only [List.map_cons, dsum, List.sum_cons, ih]
    by_cases e : al.getD v false = true
    · rw [if_pos e, if_pos e, if_neg (by unfold degF; omega)]; unfold degF; omega
    · rw [if_neg e, if_neg e, if_pos rfl]; omega
theorem sum_hit (al : List Bool) (x : Int) : ∀ n : Nat, ((List.range n).map fun v => if al.getD v false = true then (if x = (v : Int) then 1 else 0) else 0).sum = if 0 ≤ x ∧ x < (n : Int) ∧ al.getD x.toNat false = true then 1 else 0
  | 0 => by simp; omega
  | n + 1 => by
    rw [List.range_succ, List.map_append, List.sum_append, sum_hit al x n]
    simp only [List.map_cons, List.map_nil, List.sum_cons, List.sum_nil, Nat.add_zero]
    by_cases e : x = (n : Int)
    · subst e
      simp only [Int.toNat_natCast, if_true]
      rw [if_neg (by omega)]
      by_cases g : al.getD n false = true
      · rw [if_pos g, if_pos ⟨by omega, by omega, g⟩]
      · rw [if_neg g, if_neg (fun h => g h.2.2)]
    · have h0 : (if al.getD n false = true then (if x = (n : Int) then 1 else 0) else 0) = 0 := by rw [if_neg e]; split <;> rfl
      rw [h0, Nat.add_zero]
      by_cases g : 0 ≤ x ∧ x < (n : Int) ∧ al.getD x.toNat false = true
      · rw [if_pos g, if_pos ⟨g.1, by omega, g.2.2⟩]
      · rw [if_neg g, if_neg (fun h => g ⟨h.1, by omega, h.2.2⟩)]
theorem sum_add : ∀ (f g : Nat → Nat) (l : List Nat), (l.map fun v => f v + g v).sum = (l.map f).sum + (l.map g).sum
  | f, g, [] => rfl
  | f, g, v :: l => by simp only [List.map_cons, List.sum_cons, sum_add f g l]; omega
theorem sum_deg (al : List Bool) : ∀ arcs : List Ac, (∀ a ∈ arcs, alv al a.1 = true) → ((List.range al.length).map fun v => if al.getD v false = true then arcs.countP (fun a => decide (a.1 = (v : Int))) else 0).sum = arcs.length
  | [], _ => by
    simp only [List.countP_nil, List.length_nil]
    have : ∀ l : List Nat, (l.map fun v => if al.getD v false = true then 0 else 0).sum = 0 := by
      intro l
      induction l with
      | nil => rfl
      | cons v l ih => simp only [List.map_cons, List.sum_cons, ih]; split <;> rfl
    exact this _
  | a :: arcs, h => by
    have ih := sum_deg al arcs (fun b hb => h b (by simp [hb]))
    have h1 := sum_hit al a.1 al.length
    have h2 := (alv_iff _ _).1 (h a (by simp))
    rw [if_pos h2] at h1
    have h3 : ((List.range al.length).map fun v => if al.getD v false = true then (a :: arcs).countP (fun a => decide (a.1 = (v : Int))) else 0) = (List.range al.length).map fun v => (if al.getD v false = true then arcs.countP (fun a => decide (a.1 = (v : Int))) else 0) + (if al.getD v false = true then (if a.1 = (v : Int) then 1 else 0) else 0) := by
      apply List.map_congr_left
      intro v _
      by_cases e : al.getD v false = true
      · rw [if_pos e, if_pos e, if_pos e, List.countP_cons]; simp
      · rw [if_neg e, if_neg e, if_neg e]
    rw [h3, sum_add, ih, h1, List.length_cons]
/-- arcs are counted once -/
theorem deg_sum {al : List Bool} {arcs : List Ac} (S : Shot al arcs) : dsum (firstL al (degF arcs)) = (arcs.length : Int) := by
  unfold firstL
  rw [dsum_map al arcs S.na, sum_deg al arcs (fun a ha => (S.ends a ha).1)]
theorem deg_alive {al : List Bool} {arcs : List Ac} (S : Shot al arcs) {v : Nat} (hv : v < al.length) : if al.getD v false = true then 0 ≤ (firstL al (degF arcs)).getD v 0 ∧ (firstL al (degF arcs)).getD v 0 ≤ 30 else (firstL al (degF arcs)).getD v 0 = 1099511627776 := by
  rw [firstL_getD _ _ _ hv]
  by_cases e : al.getD v false = true
  · rw [if_pos e, if_pos e]
    have : arcs.countP (fun a => decide (a.1 = (v : Int))) ≤ arcs.length := List.countP_le_length
    have := S.na
    unfold degF; omega
  · rw [if_neg e, if_neg e]

end Go.Proofs.Ytnopdnajlbaccae
