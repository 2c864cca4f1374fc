/-
  Parts of a graph: the vertices that stay, with new numbers: plain mathematics, without any program.
-/
import Derived.Test.YtanbbkoleekmjagTnMat2
namespace Go.Proofs.Ytanbbkoleekmjag

/-- the vertices that stay, of the first n -/
def oldF (K : List Bool) : Nat → List Int
  | 0 => []
  | n + 1 => oldF K n ++ if K.getD n false = true then [(n : Int)] else []
/-- their lives -/
def livF (K : List Bool) (lv : List (Int × Int)) : Nat → List (Int × Int)
  | 0 => []
  | n + 1 => livF K lv n ++ if K.getD n false = true then [lv.getD n (0, 0)] else []
/-- a vertex's new number -/
def rkF (K : List Bool) (v : Int) : Int := ((oldF K v.toNat).length : Int)
/-- what is left of an edge -/
def partE (K : List Bool) (e : Ed) : List Ed := if K.getD e.1.toNat false = true ∧ K.getD e.2.1.toNat false = true then [(rkF K e.1, rkF K e.2.1, e.2.2)] else []
def partEs (K : List Bool) (g : Gr) (i : Nat) : List Ed := (g.edges.take i).flatMap (partE K)
def partG (K : List Bool) (g : Gr) : Gr := ⟨g.hor, livF K g.lives K.length, partEs K g g.edges.length⟩
/-- what Only answers -/
def partA (g : Gr) (K : List Bool) : Gr × Int := if gChk g = 0 then if K.length = g.lives.length then (partG K g, 0) else (⟨0, [], []⟩, 5) else (⟨0, [], []⟩, gChk g)

theorem partEs_succ {K : List Bool} {g : Gr} {i : Nat} (hi : i < g.edges.length) : partEs K g (i + 1) = partEs K g i ++ partE K g.edges[i] := by
  unfold partEs; rw [List.take_succ_eq_append_getElem hi, List.flatMap_append]; simp
theorem partE_len (K : List Bool) (e : Ed) : (partE K e).length ≤ 1 := by unfold partE; split <;> simp
theorem partEs_len (K : List Bool) (g : Gr) (i : Nat) : i ≤ g.edges.length → (partEs K g i).length ≤ i := by
  induction i with
  | zero => intro _; simp [partEs]
  | succ i ih =>
    intro hi
    rw [partEs_succ (by omega), List.length_append]
    have := partE_len K g.edges[i]
    have := ih (by omega)
    omega
theorem old_len (K : List Bool) (n : Nat) : (oldF K n).length ≤ n := by
  induction n with
  | zero => simp [oldF]
  | succ n ih => rw [oldF, List.length_append]; split <;> simp <;> omega
theorem old_mono (K : List Bool) {a b : Nat} (h : a ≤ b) : (oldF K a).length ≤ (oldF K b).length := by
  induction b with
  | zero => have : a = 0 := by omega
            subst this; exact Nat.le_refl _
  | succ b ih =>
    by_cases e : a = b + 1
    · subst e; exact Nat.le_refl _
    · have := ih (by omega)
      rw [oldF, List.length_append]; omega
theorem old_lt (K : List Bool) {v n : Nat} (h : v < n) (hk : K.getD v false = true) : (oldF K v).length < (oldF K n).length := by
  have h1 : (oldF K (v + 1)).length = (oldF K v).length + 1 := by rw [oldF, if_pos hk]; simp
  have := old_mono K (show v + 1 ≤ n by omega)
  omega
theorem liv_len (K : List Bool) (lv : List (Int × Int)) (n : Nat) : (livF K lv n).length = (oldF K n).length := by
  induction n with
  | zero => rfl
  | succ n ih => rw [livF, oldF, List.length_append, List.length_append, ih]; split <;> rfl
theorem liv_get (K : List Bool) (lv : List (Int × Int)) {v n : Nat} (h : v < n) (hk : K.getD v false = true) : (livF K lv n)[(oldF K v).length]? = some (lv.getD v (0, 0)) := by
  induction n with
  | zero => omega
  | succ n ih =>
    rw [livF]
    by_cases e : v = n
    · subst e
      rw [if_pos hk, List.getElem?_append_right (by rw [liv_len]; exact Nat.le_refl _), liv_len, Nat.sub_self]; rfl
    · rw [List.getElem?_append_left (by rw [liv_len]; exact old_lt K (by omega) hk)]
      exact ih (by omega)
theorem old_get (K : List Bool) {v n : Nat} (h : v < n) (hk : K.getD v false = true) : (oldF K n)[(oldF K v).length]? = some (v : Int) := by
  induction n with
  | zero => omega
  | succ n ih =>
    rw [oldF]
    by_cases e : v = n
    · subst e
      rw [if_pos hk, List.getElem?_append_right (Nat.le_refl _), Nat.sub_self]; rfl
    · rw [List.getElem?_append_left (old_lt K (by omega) hk)]
      exact ih (by omega)
theorem mem_old {K : List Bool} {n : Nat} {x : Int} : x ∈ oldF K n ↔ ∃ v : Nat, v < n ∧ K.getD v false = true ∧ x = (v : Int) := by
  induction n with
  | zero => simp [oldF]
  | succ n ih =>
    rw [oldF, List.mem_append, ih]
    constructor
    · rintro (⟨v, h1, h2, h3⟩ | h)
      · exact ⟨v, by omega, h2, h3⟩
      · split at h
        · rename_i k; exact ⟨n, by omega, k, by simpa using h⟩
        · simp at h
    · rintro ⟨v, h1, h2, h3⟩
      by_cases e : v = n
      · subst e; right; rw [if_pos h2]; simp [h3]
      · exact .inl ⟨v, by omega, h2, h3⟩
/-- each number is some vertex's -/
theorem old_dec {K : List Bool} {n k : Nat} (h : k < (oldF K n).length) : ∃ v : Nat, v < n ∧ K.getD v false = true ∧ (oldF K v).length = k := by
  induction n with
  | zero => simp [oldF] at h
  | succ n ih =>
    by_cases c : k < (oldF K n).length
    · obtain ⟨v, h1, h2, h3⟩ := ih c
      exact ⟨v, by omega, h2, h3⟩
    · rw [oldF, List.length_append] at h
      by_cases d : K.getD n false = true
      · rw [if_pos d] at h
        simp only [List.length_singleton] at h
        exact ⟨n, by omega, d, by omega⟩
      · rw [if_neg d] at h
        simp only [List.length_nil] at h
        omega
theorem old_inj {K : List Bool} {a b : Nat} (ha : K.getD a false = true) (hb : K.getD b false = true) (h : (oldF K a).length = (oldF K b).length) : a = b := by
  rcases Nat.lt_trichotomy a b with c | c | c
  · have := old_lt K c ha; omega
  · exact c
  · have := old_lt K c hb; omega
/-- where a number stands among those that stay -/
theorem old_at {K : List Bool} {n k v : Nat} (hk : k < (oldF K n).length) (e : (oldF K n)[k] = (v : Int)) : K.getD v false = true ∧ k = (oldF K v).length := by
  obtain ⟨u, h1, h2, h3⟩ := old_dec hk
  have h4 := old_get K h1 h2
  rw [h3, List.getElem?_eq_getElem hk, e] at h4
  simp only [Option.some.injEq] at h4
  have : v = u := by omega
  subst this
  exact ⟨h2, h3.symm⟩
theorem getD_lt {K : List Bool} {v : Nat} (h : K.getD v false = true) : v < K.length := by
  by_cases c : v < K.length
  · exact c
  · rw [List.getD_eq_getElem?_getD, List.getElem?_eq_none (by omega)] at h; cases h

theorem part_alive {K : List Bool} {g : Gr} (hl : K.length = g.lives.length) {v : Nat} (hk : K.getD v false = true) (t : Int) : aliveB t (partG K g).lives ((oldF K v).length : Int) = aliveB t g.lives (v : Int) := by
  have hv := getD_lt hk
  have h1 := liv_get K g.lives hv hk
  unfold aliveB aliveL
  show ((livF K g.lives K.length).map _).getD _ _ = _
  rw [List.getD_eq_getElem?_getD, List.getD_eq_getElem?_getD, List.getElem?_map, List.getElem?_map, Int.toNat_natCast, Int.toNat_natCast, h1, List.getD_eq_getElem?_getD, List.getElem?_eq_getElem (by omega)]
  rfl
theorem mem_part {K : List Bool} {g : Gr} {e : Ed} : e ∈ (partG K g).edges ↔ ∃ x ∈ g.edges, (K.getD x.1.toNat false = true ∧ K.getD x.2.1.toNat false = true) ∧ e = (rkF K x.1, rkF K x.2.1, x.2.2) := by
  unfold partG partEs partE
  simp only [List.take_length, List.mem_flatMap]
  constructor
  · rintro ⟨x, hx, h⟩
    split at h
    · rename_i k; exact ⟨x, hx, k, by simpa using h⟩
    · simp at h
  · rintro ⟨x, hx, k, rfl⟩
    exact ⟨x, hx, by rw [if_pos k]; simp⟩
theorem part_right {K : List Bool} {g : Gr} (h0 : gChk g = 0) (hl : K.length = g.lives.length) : gChk (partG K g) = 0 := by
  have R := gChk_right h0
  have hn : (partG K g).lives.length = (oldF K K.length).length := liv_len K g.lives K.length
  refine gChk_of R.hor ?_ ?_ (fun p hp => ?_) (fun e he => ?_) (fun e he => ?_)
  · rw [hn]; have := old_len K K.length; have := R.lvs; omega
  · have := partEs_len K g g.edges.length (Nat.le_refl _); have := R.eds
    show (partEs K g g.edges.length).length ≤ 30
    omega
  · obtain ⟨i, hi, rfl⟩ := List.getElem_of_mem hp
    obtain ⟨v, h1, h2, h3⟩ := old_dec (K := K) (n := K.length) (k := i) (by rw [← hn]; exact hi)
    have h4 := liv_get K g.lives h1 h2
    rw [h3] at h4
    have h5 : (partG K g).lives[i] = g.lives.getD v (0, 0) := by
      have : (livF K g.lives K.length)[i]? = some (partG K g).lives[i] := List.getElem?_eq_getElem hi
      rw [h4] at this; exact (Option.some.inj this).symm
    rw [h5, List.getD_eq_getElem?_getD, List.getElem?_eq_getElem (by omega)]
    exact R.life _ (List.getElem_mem _)
  · obtain ⟨x, hx, ⟨k1, k2⟩, rfl⟩ := mem_part.1 he
    have h1 := old_lt K (getD_lt k1) k1
    have h2 := old_lt K (getD_lt k2) k2
    have h3 := R.ends x hx
    rw [hn]
    unfold rkF
    simp only
    omega
  · obtain ⟨x, hx, _, rfl⟩ := mem_part.1 he
    exact lg_ok h0 x hx
theorem part_hop {K : List Bool} {g : Gr} (R : Right g) (hl : K.length = g.lives.length) {v : Nat} (hk : K.getD v false = true) {t b s c : Int} (h : Hop (partG K g) ((oldF K v).length : Int) t b s c) : ∃ u : Nat, K.getD u false = true ∧ b = ((oldF K u).length : Int) ∧ Hop g (v : Int) t (u : Int) s c := by
  obtain ⟨e, he, e1, rfl, l, hl', h1, h2, h3, h4, h5, h6⟩ := h
  obtain ⟨x, hx, ⟨k1, k2⟩, rfl⟩ := mem_part.1 he
  have hr := R.ends x hx
  simp only [rkF, Int.ofNat_inj] at e1
  have hv := old_inj k1 hk e1
  have hx1 : x.1 = (v : Int) := by omega
  rw [part_alive hl hk] at h4
  simp only [rkF] at h5
  rw [part_alive hl k2] at h5
  refine ⟨x.2.1.toNat, k2, rfl, x, hx, hx1, by omega, l, hl', h1, h2, h3, h4, ?_, h6⟩
  exact h5
theorem part_rch {K : List Bool} {g : Gr} (h0 : gChk g = 0) (hl : K.length = g.lives.length) {v : Nat} (hk : K.getD v false = true) {t x y : Int} (h : Rch (partG K g) ((oldF K v).length : Int) t x y) : ∃ u : Nat, K.getD u false = true ∧ x = ((oldF K u).length : Int) ∧ Rch g (v : Int) t (u : Int) y := by
  have R := gChk_right h0
  refine rch_ind (part_right h0 hl) (P := fun x y => ∃ u : Nat, K.getD u false = true ∧ x = ((oldF K u).length : Int) ∧ Rch g (v : Int) t (u : Int) y) (fun a => ?_) (fun x y _ h a => ?_) (fun a y b s c _ h p => ?_) h
  · rw [part_alive hl hk] at a
    exact ⟨v, hk, rfl, .base a⟩
  · obtain ⟨u, h1, rfl, h3⟩ := h
    rw [part_alive hl h1] at a
    exact ⟨u, h1, rfl, .wait h3 a⟩
  · obtain ⟨u, h1, rfl, h3⟩ := h
    obtain ⟨z, k1, k2, k3⟩ := part_hop R hl h1 p
    exact ⟨z, k1, k2, h3.hop h0 k3⟩
/-- with fewer vertices one comes nowhere earlier -/
theorem part_later {K : List Bool} {g : Gr} (h0 : gChk g = 0) (hl : K.length = g.lives.length) {v : Nat} (hk : K.getD v false = true) {t : Int} {u : Nat} (hu : K.getD u false = true) : (erF g (v : Int) t).1.getD u 0 ≤ (erF (partG K g) ((oldF K v).length : Int) t).1.getD (oldF K u).length 0 := by
  have R := gChk_right h0
  have R' := gChk_right (part_right h0 hl)
  have hh := R.hor
  obtain ⟨a1, a2⟩ := er_spec R (v := (v : Int)) (t := t) (by omega) u (by have := getD_lt hu; omega)
  obtain ⟨b1, _⟩ := er_spec R' (v := ((oldF K v).length : Int)) (t := t) (by omega) (oldF K u).length (by show _ < (livF K g.lives K.length).length; rw [liv_len]; exact old_lt K (getD_lt hu) hu)
  rcases b1 with b1 | b1
  · rw [b1]
    rcases a1 with a1 | a1
    · omega
    · have := (a1.place R (by omega)).2.2.2; omega
  · obtain ⟨z, k1, k2, k3⟩ := part_rch h0 hl hk b1
    have : u = z := old_inj hu k1 (by omega)
    subst this
    exact a2 _ k3
theorem part_place {K : List Bool} {g : Gr} (h0 : gChk g = 0) (hl : K.length = g.lives.length) {v : Nat} (hk : K.getD v false = true) (t : Int) : placeE (partG K g) ((oldF K v).length : Int) t = placeE g (v : Int) t := by
  have h1 := old_lt K (getD_lt hk) hk
  have hv := getD_lt hk
  have hn : (partG K g).lives.length = (oldF K K.length).length := liv_len K g.lives K.length
  unfold placeE
  have e1 : inR ((oldF K v).length : Int) 0 (((partG K g).lives.length : Int) - 1) = true := (inR_iff _ _ _).2 (by rw [hn]; omega)
  have e2 : inR (v : Int) 0 ((g.lives.length : Int) - 1) = true := (inR_iff _ _ _).2 (by omega)
  rw [part_right h0 hl, h0, e1, e2]
  rfl

/-! all of them -/
theorem all_old {K : List Bool} (n : Nat) (h : ∀ v, v < n → K.getD v false = true) : (oldF K n).length = n := by
  induction n with
  | zero => rfl
  | succ n ih => rw [oldF, if_pos (h n (by omega)), List.length_append, ih fun v hv => h v (by omega)]; rfl
theorem all_liv {K : List Bool} {lv : List (Int × Int)} (n : Nat) (hn : n ≤ lv.length) (h : ∀ v, v < n → K.getD v false = true) : livF K lv n = lv.take n := by
  induction n with
  | zero => simp [livF]
  | succ n ih => rw [livF, if_pos (h n (by omega)), ih (by omega) fun v hv => h v (by omega), List.take_succ_eq_append_getElem (by omega), List.getD_eq_getElem?_getD, List.getElem?_eq_getElem (by omega)]; rfl
theorem all_same {g : Gr} (R : Right g) : partG (List.replicate g.lives.length true) g = g := by
  have hK : ∀ v, v < g.lives.length → (List.replicate g.lives.length true).getD v false = true := fun v hv => by simp [List.getD_eq_getElem?_getD, hv]
  have h1 : livF (List.replicate g.lives.length true) g.lives (List.replicate g.lives.length true).length = g.lives := by
    rw [List.length_replicate, all_liv _ (Nat.le_refl _) hK, List.take_length]
  have h2 : ∀ e ∈ g.edges, partE (List.replicate g.lives.length true) e = [e] := by
    intro e he
    have hr := R.ends e he
    unfold partE rkF
    rw [if_pos ⟨hK _ (by omega), hK _ (by omega)⟩, all_old _ (fun v hv => hK v (by omega)), all_old _ (fun v hv => hK v (by omega))]
    obtain ⟨a, b, l⟩ := e
    simp only at hr ⊢
    rw [show ((a.toNat : Nat) : Int) = a by omega, show ((b.toNat : Nat) : Int) = b by omega]
  have h3 : ∀ l : List Ed, (∀ e ∈ l, partE (List.replicate g.lives.length true) e = [e]) → l.flatMap (partE (List.replicate g.lives.length true)) = l := by
    intro l
    induction l with
    | nil => intro _; rfl
    | cons e l ih => intro h; rw [List.flatMap_cons, h e (List.mem_cons_self ..), ih fun x hx => h x (List.mem_cons_of_mem _ hx)]; rfl
  unfold partG partEs
  rw [h1, List.take_length, h3 _ h2]

end Go.Proofs.Ytanbbkoleekmjag
