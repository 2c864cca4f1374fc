/-
  What the law PlainWays asks of least sums, in the terms of its tests: the plain mathematics, without any program.
-/
import Derived.Test.YtnopdnajlbaccaeWBase
namespace Go.Proofs.Ytnopdnajlbaccae

theorem row_costs {n : Int} {r : List Int} (h : LeastIs [true, true, true] [(0, 1, 4), (1, 2, 5)] 0 (fun a => a.2.2) n r) : n = 0 ∧ r = [0, 4, 9] := by
  have h0 : shot [true, true, true] [(0, 1, 4), (1, 2, 5)] = 0 := by decide
  have h1 : vtx 3 0 = true := by decide
  rcases h with ⟨h, _⟩ | ⟨_, h, _⟩ | ⟨_, _, hn, B⟩
  · exact absurd h0 h
  · exact absurd (h1.symm.trans h) (by decide)
  · refine ⟨hn, ?_⟩
    have hl : r.length = 3 := B.mid.len.trans (firstL_length _ _)
    have hA : Adm (firstL [true, true, true] (fromF 0)) [(0, 1, 4), (1, 2, 5)] (fun a => a.2.2) (fun v => if v = 0 then 0 else if v = 1 then 4 else 9) := by
      refine ⟨fun v hv => ?_, fun a ha => ?_⟩
      · rw [firstL_length] at hv
        rw [firstL_getD _ _ _ hv]
        have hv3 : v < 3 := hv
        have : v = 0 ∨ v = 1 ∨ v = 2 := by omega
        rcases this with rfl | rfl | rfl <;> decide
      · simp only [List.mem_cons, List.not_mem_nil, or_false] at ha
        rcases ha with rfl | rfl <;> decide
    have m0 := B.mid.most _ hA 0 (by rw [firstL_length]; decide)
    have m1 := B.mid.most _ hA 1 (by rw [firstL_length]; decide)
    have m2 := B.mid.most _ hA 2 (by rw [firstL_length]; decide)
    have l0 := B.mid.le 0 (by rw [firstL_length]; decide)
    rw [firstL_getD _ _ _ (by decide)] at l0
    have c1 := B.cl (0, 1, 4) (by simp)
    have c2 := B.cl (1, 2, 5) (by simp)
    match r, hl with
    | [a, b, c], _ =>
      simp [vat, fromF] at m0 m1 m2 l0 c1 c2
      have e0 : a = 0 := by omega
      have e1 : b = 4 := by omega
      have e2 : c = 9 := by omega
      rw [e0, e1, e2]

theorem least_err {al : List Bool} {arcs : List Ac} {fr : Int} {p : Ac → Int} {n : Int} {r : List Int} (h : LeastIs al arcs fr p n r) (h0 : shot al arcs = 0) : n = if vtx al.length fr = true then 0 else 4 := by
  rcases h with ⟨h, _⟩ | ⟨_, h, hn, _⟩ | ⟨_, h, hn, _⟩
  · exact absurd h0 h
  · rw [hn, if_neg (by rw [h]; decide)]
  · rw [hn, if_pos h]
theorem least_bad' {al : List Bool} {arcs : List Ac} {fr : Int} {p : Ac → Int} {n : Int} {r : List Int} (h : LeastIs al arcs fr p n r) (h0 : ¬ shot al arcs = 0) : n = shot al arcs := by
  rcases h with ⟨_, h1, h2⟩ | ⟨h, _⟩ | ⟨h, _⟩
  · exact h1
  · exact absurd h h0
  · exact absurd h h0
theorem least_best {al : List Bool} {arcs : List Ac} {fr : Int} {p : Ac → Int} {n : Int} {r : List Int} (h : LeastIs al arcs fr p n r) (h0 : shot al arcs = 0) (hv : vtx al.length fr = true) : Best (firstL al (fromF fr)) arcs p r := by
  rcases h with ⟨h, _⟩ | ⟨_, h, _⟩ | ⟨_, _, h1, h2⟩
  · exact absurd h0 h
  · rw [hv] at h; cases h
  · exact h2
theorem labels_bad' {al : List Bool} {arcs : List Ac} {n : Int} {r : List Int} (h : LabelsIs al arcs n r) (h0 : ¬ shot al arcs = 0) : n = shot al arcs := by
  rcases h with ⟨_, h1, _⟩ | ⟨h, _⟩
  · exact h1
  · exact absurd h h0
theorem labels_best {al : List Bool} {arcs : List Ac} {n : Int} {r : List Int} (h : LabelsIs al arcs n r) (h0 : shot al arcs = 0) : n = 0 ∧ Best (firstL al (fun v => v)) (both arcs) (fun _ => 0) r := by
  rcases h with ⟨h, _⟩ | ⟨_, h1, h2⟩
  · exact absurd h0 h
  · exact ⟨h1, h2⟩
theorem degs_bad' {al : List Bool} {arcs : List Ac} {n : Int} {r : List Int} (h : DegIs al arcs n r) (h0 : ¬ shot al arcs = 0) : n = shot al arcs := by
  rcases h with ⟨_, h1, _⟩ | ⟨h, _⟩
  · exact h1
  · exact absurd h h0
theorem degs_is {al : List Bool} {arcs : List Ac} {n : Int} {r : List Int} (h : DegIs al arcs n r) (h0 : shot al arcs = 0) : n = 0 ∧ r = firstL al (degF arcs) := by
  rcases h with ⟨h, _⟩ | ⟨_, h1, h2⟩
  · exact absurd h0 h
  · exact ⟨h1, h2⟩

/-- the sum so far is small -/
theorem dsum_bounds : ∀ (l : List Int), (∀ d ∈ l, d = 1099511627776 ∨ (0 ≤ d ∧ d ≤ 30)) → 0 ≤ dsum l ∧ dsum l ≤ 30 * l.length
  | [], _ => by simp [dsum]
  | d :: l, h => by
    have h1 := dsum_bounds l (fun x hx => h x (by simp [hx]))
    have h2 := h d (by simp)
    simp only [dsum, List.length_cons]
    split <;> omega
theorem getD_get {l : List Int} {k : Nat} (h : k < l.length) : l.getD k 0 = l[k] := by rw [List.getD_eq_getElem?_getD, List.getElem?_eq_getElem h]; rfl
/-- what the first loop meets at a vertex -/
theorem ways_one {al : List Bool} {arcs : List Ac} {L : List Int} (S : Shot al arcs) (BL : Best (firstL al (fun v => v)) (both arcs) (fun _ => 0) L) {k : Nat} (hk : k < al.length) :
    ((firstL al (degF arcs)).getD k 0 = 1099511627776 ∧ L.getD k 0 = 1099511627776) ∨ (0 ≤ (firstL al (degF arcs)).getD k 0 ∧ (firstL al (degF arcs)).getD k 0 ≤ 30 ∧ 0 ≤ L.getD k 0 ∧ L.getD k 0 ≤ (k : Int)) := by
  have h1 := deg_alive S hk
  have h2 := label_alive S BL hk
  have h3 := label_lo S BL hk
  by_cases e : al.getD k false = true
  · rw [if_pos e] at h1 h2; exact .inr ⟨h1.1, h1.2, h3, h2⟩
  · rw [if_neg e] at h1 h2; exact .inl ⟨h1, h2⟩
theorem deg_dsum_bounds {al : List Bool} {arcs : List Ac} (S : Shot al arcs) (k : Nat) : 0 ≤ dsum ((firstL al (degF arcs)).take k) ∧ dsum ((firstL al (degF arcs)).take k) ≤ 360 := by
  have nv := S.nv
  have h := dsum_bounds ((firstL al (degF arcs)).take k) (fun d hd => by
    have hd := List.mem_of_mem_take hd
    obtain ⟨i, hi, rfl⟩ := List.getElem_of_mem hd
    rw [firstL_length] at hi
    have h1 := deg_alive S hi
    rw [getD_get (by rw [firstL_length]; exact hi)] at h1
    by_cases e : al.getD i false = true
    · rw [if_pos e] at h1; exact .inr h1
    · rw [if_neg e] at h1; exact .inl h1)
  have h2 : ((firstL al (degF arcs)).take k).length ≤ al.length := by rw [List.length_take, firstL_length]; omega
  omega
/-- what the last loop meets at a vertex -/
theorem ways_four {al : List Bool} {arcs : List Ac} {fr : Int} {H C L : List Int} (S : Shot al arcs) (BC : Best (firstL al (fromF fr)) arcs (fun a => a.2.2) C) (BH : Best (firstL al (fromF fr)) arcs (fun _ => 1) H) (BL : Best (firstL al (fun v => v)) (both arcs) (fun _ => 0) L) {v : Nat} (hv : v < al.length) :
    (C.getD v 0 = 1099511627776 ∧ H.getD v 0 = 1099511627776) ∨ (C.getD v 0 < 1099511627776 ∧ H.getD v 0 < (al.length : Int) ∧ H.getD v 0 < 1099511627776 ∧ L.getD v 0 = vat L fr ∧ ((v : Int) = fr ∨ arcs.any (byB C v (C.getD v 0)) = true)) := by
  have nv := S.nv
  have h0 := from_le BC.mid hv
  have h1 := from_le BH.mid hv
  have h2 := inf_iff S BH BC hv
  by_cases e : C.getD v 0 = 1099511627776
  · exact .inl ⟨e, h2.1 e⟩
  · have h3 : ¬ H.getD v 0 = 1099511627776 := fun h => e (h2.2 h)
    have h4 := hops_small S BH hv (by omega)
    refine .inr ⟨by omega, h4, by omega, label_from S BC BL hv (by omega), ?_⟩
    by_cases g : (v : Int) = fr
    · exact .inl g
    · obtain ⟨a, ha, b1, b2, b3⟩ := cost_by S BC hv g (by omega)
      refine .inr (List.any_eq_true.2 ⟨a, ha, ?_⟩)
      unfold byB
      simp [b1, b2, b3]

end Go.Proofs.Ytnopdnajlbaccae
