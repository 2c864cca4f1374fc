/-
  Time turned round: who can be where, and at what price: plain mathematics, without any program.
-/
import Derived.Test.YtanbbkoleekmjagPk1
import Derived.Test.YtanbbkoleekmjagChMath
namespace Go.Proofs.Ytanbbkoleekmjag

/-- one goes from a at t to b, is there at s, and pays c -/
def Hop (g : Gr) (a t b s c : Int) : Prop := ∃ e ∈ g.edges, e.1 = a ∧ e.2.1 = b ∧ ∃ l ∈ e.2.2, (l.1 ≤ t ∧ t < l.2.1) ∧ s = t + l.2.2.1 ∧ c = l.2.2.2 ∧ aliveB t g.lives a = true ∧ aliveB s g.lives b = true ∧ s < g.hor

theorem lg_find {h : Int} {l : Lg} {t : Int} : ∀ {ls : List Lg} {p : Int}, lgChk h p ls = 0 → l ∈ ls → l.1 ≤ t → t < l.2.1 → lgFind t ls = some l ∧ p ≤ t
  | [], p, _, hl, _, _ => by simp at hl
  | x :: ls, p, hc, hl, h1, h2 => by
    unfold lgChk at hc
    by_cases k1 : fitB x h = false
    · rw [if_pos k1] at hc; omega
    rw [if_neg k1] at hc
    by_cases k2 : x.1 < p
    · rw [if_pos k2] at hc; omega
    rw [if_neg k2] at hc
    have hx := (fitB_iff _ _).1 (by simpa using k1)
    unfold lgFind
    rcases List.mem_cons.1 hl with rfl | hl
    · rw [if_pos ((hasB_iff _ _ _).2 ⟨h1, h2⟩)]
      exact ⟨rfl, by omega⟩
    · obtain ⟨e, k⟩ := lg_find hc hl h1 h2
      rw [if_neg (by rw [hasB_iff]; omega)]
      exact ⟨e, by omega⟩

theorem lg_ok {g : Gr} (h : gChk g = 0) : ∀ e ∈ g.edges, lgChk g.hor 0 e.2.2 = 0 := by
  have R := gChk_right h
  unfold gChk at h
  by_cases h1 : inR g.hor 1 100 = false
  · rw [if_pos h1] at h; omega
  rw [if_neg h1] at h
  by_cases h2 : 12 < g.lives.length ∨ 30 < g.edges.length
  · rw [if_pos h2] at h; omega
  rw [if_neg h2] at h
  by_cases h3 : lvChk g.hor g.lives ≠ 0
  · rw [if_pos h3] at h; omega
  rw [if_neg h3] at h
  have e0 := eds_all h
  intro e he
  have h4 := e0 e he
  unfold edChk at h4
  by_cases k1 : (inR e.1 0 (g.lives.length - 1) && inR e.2.1 0 (g.lives.length - 1)) = false
  · rw [if_pos k1] at h4; omega
  rw [if_neg k1] at h4
  by_cases k2 : 6 < e.2.2.length
  · rw [if_pos k2] at h4; omega
  rw [if_neg k2] at h4
  exact h4

/-- a graph is right if its parts are -/
theorem lv_of {h : Int} : ∀ {l : List (Int × Int)}, (∀ p ∈ l, spanB p.1 p.2 h = true) → lvChk h l = 0
  | [], _ => rfl
  | p :: l, k => by
    unfold lvChk
    rw [if_pos (k p (List.mem_cons_self ..))]
    exact lv_of fun q hq => k q (List.mem_cons_of_mem _ hq)
theorem eds_of {h n : Int} : ∀ {l : List Ed}, (∀ e ∈ l, edChk h n e = 0) → edsChk h n l = 0
  | [], _ => rfl
  | e :: l, k => by
    unfold edsChk
    rw [if_pos (k e (List.mem_cons_self ..))]
    exact eds_of fun q hq => k q (List.mem_cons_of_mem _ hq)
theorem gChk_of {g : Gr} (h1 : 1 ≤ g.hor ∧ g.hor ≤ 100) (h2 : g.lives.length ≤ 12) (h3 : g.edges.length ≤ 30) (h4 : ∀ p ∈ g.lives, 0 ≤ p.1 ∧ p.1 < p.2 ∧ p.2 ≤ g.hor)
    (h5 : ∀ e ∈ g.edges, (0 ≤ e.1 ∧ e.1 < g.lives.length) ∧ (0 ≤ e.2.1 ∧ e.2.1 < g.lives.length) ∧ e.2.2.length ≤ 6) (h6 : ∀ e ∈ g.edges, lgChk g.hor 0 e.2.2 = 0) : gChk g = 0 := by
  unfold gChk
  rw [if_neg (by rw [(inR_iff _ _ _).2 h1]; simp), if_neg (by omega), if_neg (by rw [lv_of fun p hp => (spanB_iff _ _ _).2 (h4 p hp)]; simp)]
  refine eds_of fun e he => ?_
  obtain ⟨k1, k2, k3⟩ := h5 e he
  unfold edChk
  rw [if_neg (by rw [(inR_iff _ _ _).2 (by omega), (inR_iff _ _ _).2 (by omega)]; simp), if_neg (by omega)]
  exact h6 e he

theorem hop_lands {g : Gr} (h : gChk g = 0) {a t b s c : Int} : Hop g a t b s c ↔ ∃ (i : Nat) (hi : i < g.edges.length), g.edges[i].1 = a ∧ g.edges[i].2.1 = b ∧ lands g g.edges[i] t = some (s, c) := by
  constructor
  · rintro ⟨e, he, rfl, rfl, l, hl, ⟨h1, h2⟩, rfl, rfl, h3, h4, h5⟩
    obtain ⟨i, hi, rfl⟩ := List.getElem_of_mem he
    refine ⟨i, hi, rfl, rfl, lands_yes (lg_find (lg_ok h _ he) hl h1 h2).1 ?_⟩
    rw [h3, h4]; simp [h5]
  · rintro ⟨i, hi, rfl, rfl, hq⟩
    obtain ⟨l, hl, k1, k2, k3, k4, k5, k6, k7⟩ := lands_spec hq
    exact ⟨_, List.getElem_mem hi, rfl, rfl, l, hl, ⟨k1, k2⟩, k3, k4, k5, k7, k6⟩

theorem Rch.hop {g : Gr} (h : gChk g = 0) {v0 t0 a t b s c : Int} (k : Rch g v0 t0 a t) (p : Hop g a t b s c) : Rch g v0 t0 b s := by
  obtain ⟨i, hi, rfl, rfl, hq⟩ := (hop_lands h).1 p
  exact .ride (q := (s, c)) i hi k hq

/-- what holds of all where one can be -/
theorem rch_ind {g : Gr} (h : gChk g = 0) {v0 t0 : Int} {P : Int → Int → Prop} (hb : aliveB t0 g.lives v0 = true → P v0 t0) (hw : ∀ v t, Rch g v0 t0 v t → P v t → aliveB (t + 1) g.lives v = true → P v (t + 1)) (hr : ∀ a t b s c, Rch g v0 t0 a t → P a t → Hop g a t b s c → P b s) {v t : Int} (k : Rch g v0 t0 v t) : P v t := by
  induction k with
  | base k => exact hb k
  | wait k a ih => exact hw _ _ k ih a
  | @ride t q i hi k hq ih => exact hr _ _ _ _ q.2 k ih ((hop_lands h).2 ⟨i, hi, rfl, rfl, hq⟩)

/-- .. and at what price -/
theorem pay_ind {g : Gr} (h : gChk g = 0) {v0 t0 : Int} {P : Int → Int → Int → Prop} (hb : aliveB t0 g.lives v0 = true → P v0 t0 0) (hw : ∀ v t p, P v t p → aliveB (t + 1) g.lives v = true → P v (t + 1) p) (hr : ∀ a t b s c p, P a t p → Hop g a t b s c → P b s (p + c)) {v t p : Int} (k : Pay g (fun r => r.2.2.2.2.2) v0 t0 v t p) : P v t p := by
  have R := gChk_right h
  obtain ⟨k0, k⟩ := k
  induction k with
  | @base v t p k =>
    unfold F1 at k
    split at k
    · rename_i e; obtain ⟨rfl, rfl⟩ := e; cases k; exact hb k0
    · cases k
  | wait k a ih => exact hw _ _ _ ih a
  | @ride p r hr' k ih =>
    have := mem_rides R hr'
    refine hr _ _ _ _ _ _ ih ((hop_lands h).2 ⟨r.1.toNat, by have := this.e0; omega, ?_, ?_, ?_⟩)
    · rw [← edge_getD (by have := this.e0; omega)]; exact this.edA
    · rw [← edge_getD (by have := this.e0; omega)]; exact this.edB
    · rw [← edge_getD (by have := this.e0; omega)]; exact this.ln

theorem Pay.hop {g : Gr} (h : gChk g = 0) {v0 t0 a t b s c p : Int} (k : Pay g (fun r => r.2.2.2.2.2) v0 t0 a t p) (q : Hop g a t b s c) : Pay g (fun r => r.2.2.2.2.2) v0 t0 b s (p + c) := by
  obtain ⟨i, hi, rfl, rfl, hq⟩ := (hop_lands h).1 q
  have R := gChk_right h
  have ha := (lands_lt R hi hq).2.1
  exact ⟨k.1, .ride (r := ((i : Int), t, g.edges[i].1, g.edges[i].2.1, s, c)) (ride_mem R hi (alive_hor R ha).2.1 hq) k.2⟩

/-! the turned graph -/
theorem rev_alive {g : Gr} (t v : Int) : aliveB (g.hor - 1 - t) (revG g).lives v = aliveB t g.lives v := by
  unfold aliveB aliveL revG
  simp only [List.map_map]
  by_cases hv : v.toNat < g.lives.length
  · rw [List.getD_eq_getElem?_getD, List.getD_eq_getElem?_getD, List.getElem?_map, List.getElem?_map, List.getElem?_eq_getElem hv]
    show hasB (g.hor - g.lives[v.toNat].2) (g.hor - g.lives[v.toNat].1) (g.hor - 1 - t) = hasB g.lives[v.toNat].1 g.lives[v.toNat].2 t
    rw [Bool.eq_iff_iff, hasB_iff, hasB_iff]; omega
  · rw [List.getD_eq_getElem?_getD, List.getD_eq_getElem?_getD, List.getElem?_eq_none (by simpa using hv), List.getElem?_eq_none (by simpa using hv)]
theorem mem_rev {g : Gr} {e : Ed} : e ∈ (revG g).edges ↔ ∃ x ∈ g.edges, ∃ l ∈ x.2.2, 0 < rvB g.hor l ∧ e = (x.2.1, x.1, [revLg g.hor l]) := by
  unfold revG revEs revE
  simp only [List.take_length, List.mem_flatMap]
  constructor
  · rintro ⟨x, hx, l, hl, h⟩
    split at h
    · rename_i k; exact ⟨x, hx, l, hl, k, by simpa using h⟩
    · simp at h
  · rintro ⟨x, hx, l, hl, k, rfl⟩
    exact ⟨x, hx, l, hl, by rw [if_pos k]; simp⟩
theorem rev_hop {g : Gr} (R : Right g) {a t b s c : Int} : Hop g a t b s c ↔ Hop (revG g) b (g.hor - 1 - s) a (g.hor - 1 - t) c := by
  constructor
  · rintro ⟨e, he, rfl, rfl, l, hl, ⟨h1, h2⟩, rfl, rfl, h3, h4, h5⟩
    have hf := (fitB_iff _ _).1 (R.legs _ he l hl)
    refine ⟨(e.2.1, e.1, [revLg g.hor l]), mem_rev.2 ⟨e, he, l, hl, by unfold rvB; omega, rfl⟩, rfl, rfl, revLg g.hor l, by simp, ?_, ?_, rfl, by rw [rev_alive]; exact h4, by rw [rev_alive]; exact h3, ?_⟩
    · unfold revLg rvA rvB; simp only; omega
    · unfold revLg; simp only; omega
    · show _ < g.hor; omega
  · rintro ⟨e, he, rfl, rfl, l, hl, ⟨h1, h2⟩, h3, rfl, h4, h5, h6⟩
    obtain ⟨x, hx, m, hm, k, rfl⟩ := mem_rev.1 he
    simp only [List.mem_singleton] at hl
    subst hl
    rw [rev_alive] at h4 h5
    unfold revLg rvA rvB at h1 h2 h3
    simp only at h1 h2 h3
    exact ⟨x, hx, rfl, rfl, m, hm, by omega, by omega, rfl, h5, h4, by omega⟩

theorem rev_right {g : Gr} (R : Right g) (h : (revG g).edges.length ≤ 30) : gChk (revG g) = 0 := by
  refine gChk_of R.hor (by have := R.lvs; simp [revG]; omega) h (fun p hp => ?_) (fun e he => ?_) (fun e he => ?_)
  · obtain ⟨q, hq, rfl⟩ := List.mem_map.1 (show p ∈ g.lives.map (revIv g.hor) from hp)
    have := R.life q hq
    show 0 ≤ g.hor - q.2 ∧ g.hor - q.2 < g.hor - q.1 ∧ g.hor - q.1 ≤ g.hor
    omega
  · obtain ⟨x, hx, m, hm, k, rfl⟩ := mem_rev.1 he
    have := R.ends x hx
    simp only [revG, List.length_map, List.length_singleton]
    omega
  · obtain ⟨x, hx, m, hm, k, rfl⟩ := mem_rev.1 he
    have hf := (fitB_iff _ _).1 (R.legs x hx m hm)
    show lgChk g.hor 0 [revLg g.hor m] = 0
    unfold rvB at k
    have h1 : fitB (revLg g.hor m) g.hor = true := by
      rw [fitB_iff]
      unfold revLg rvA rvB
      simp only
      omega
    unfold lgChk
    rw [if_neg (by rw [h1]; simp), if_neg (by unfold revLg rvA; simp only; omega)]
    rfl

theorem rev_few {g : Gr} (h : (revG g).edges.length ≤ 30) : (revG (revG g)).edges.length ≤ 30 := by
  have key : ∀ (l : List Ed), (∀ e ∈ l, e.2.2.length ≤ 1) → (l.flatMap fun e => revE (revG g).hor e e.2.2.length).length ≤ l.length := by
    intro l
    induction l with
    | nil => simp
    | cons e l ih =>
      intro hl
      rw [List.flatMap_cons, List.length_append, List.length_cons]
      have h1 := ih fun x hx => hl x (List.mem_cons_of_mem _ hx)
      have h2 := revE_len (revG g).hor e e.2.2.length
      have h3 := hl e (List.mem_cons_self ..)
      omega
  have h1 := key (revG g).edges fun e he => by
    obtain ⟨x, hx, m, hm, k, rfl⟩ := mem_rev.1 he
    simp
  have h2 : (revG (revG g)).edges = (revG g).edges.flatMap fun e => revE (revG g).hor e e.2.2.length := by
    show revEs _ _ = _
    unfold revEs; rw [List.take_length]
  rw [h2]; omega
theorem rev_lives (g : Gr) : (revG (revG g)).lives = g.lives := by
  show (g.lives.map (revIv g.hor)).map (revIv g.hor) = g.lives
  rw [List.map_map]
  conv => rhs; rw [← List.map_id g.lives]
  refine List.map_congr_left fun p _ => ?_
  unfold revIv; simp only [Function.comp, id]
  show (g.hor - (g.hor - p.1), g.hor - (g.hor - p.2)) = p
  rw [show g.hor - (g.hor - p.1) = p.1 by omega, show g.hor - (g.hor - p.2) = p.2 by omega]
theorem rev_twice {g : Gr} (R : Right g) (h : (revG g).edges.length ≤ 30) {a t b s c : Int} : Hop (revG (revG g)) a t b s c ↔ Hop g a t b s c := by
  have R1 := gChk_right (rev_right R h)
  rw [rev_hop R, rev_hop R1]
  show _ ↔ Hop (revG (revG g)) a (g.hor - 1 - (g.hor - 1 - t)) b (g.hor - 1 - (g.hor - 1 - s)) c
  rw [show g.hor - 1 - (g.hor - 1 - t) = t by omega, show g.hor - 1 - (g.hor - 1 - s) = s by omega]

/-! two graphs with the same lives and the same hops tell the same -/
structure Alike (g g' : Gr) : Prop where
  ok : gChk g = 0
  ok' : gChk g' = 0
  lv : g'.lives = g.lives
  hor : g'.hor = g.hor
  hop : ∀ a t b s c, Hop g' a t b s c ↔ Hop g a t b s c
theorem Alike.symm {g g' : Gr} (h : Alike g g') : Alike g' g := ⟨h.ok', h.ok, h.lv.symm, h.hor.symm, fun a t b s c => (h.hop a t b s c).symm⟩
theorem Alike.rch {g g' : Gr} (h : Alike g g') {v0 t0 v t : Int} (k : Rch g v0 t0 v t) : Rch g' v0 t0 v t :=
  rch_ind h.ok (fun a => .base (by rw [h.lv]; exact a)) (fun _ _ _ k a => .wait k (by rw [h.lv]; exact a)) (fun a t b s c _ k p => k.hop h.ok' ((h.hop a t b s c).2 p)) k
theorem Alike.pay {g g' : Gr} (h : Alike g g') {v0 t0 v t p : Int} (k : Pay g (fun r => r.2.2.2.2.2) v0 t0 v t p) : Pay g' (fun r => r.2.2.2.2.2) v0 t0 v t p :=
  pay_ind h.ok (fun a => ⟨by rw [h.lv]; exact a, .base (by unfold F1; rw [if_pos ⟨rfl, rfl⟩])⟩) (fun _ _ _ k a => ⟨k.1, .wait k.2 (by rw [h.lv]; exact a)⟩) (fun a t b s c p k q => k.hop h.ok' ((h.hop a t b s c).2 q)) k
theorem Alike.least {g g' : Gr} (h : Alike g g') {v t : Int} {L : List Int} (k : LeastIs g (fun r => r.2.2.2.2.2) v t L) : LeastIs g' (fun r => r.2.2.2.2.2) v t L :=
  ⟨by rw [h.lv]; exact k.len, fun x hx => (k.is x (by rw [← h.lv]; exact hx)).imp id fun ⟨y, e⟩ => ⟨y, h.pay e⟩, fun x hx y p e => k.least x (by rw [← h.lv]; exact hx) y p (h.symm.pay e)⟩
theorem Alike.place {g g' : Gr} (h : Alike g g') (v t : Int) : placeE g' v t = placeE g v t := by unfold placeE; rw [h.ok, h.ok', h.lv, h.hor]

/-- the earliest times, told by where one can be -/
theorem er_spec {g : Gr} (R : Right g) {v t : Int} (h0 : 0 ≤ v) (x : Nat) (hx : x < g.lives.length) : ((erF g v t).1.getD x 0 = 1099511627776 ∨ Rch g v t (x : Int) ((erF g v t).1.getD x 0)) ∧ ∀ y, Rch g v t (x : Int) y → (erF g v t).1.getD x 0 ≤ y := by
  by_cases ha : aliveB t g.lives v = true
  · obtain ⟨h1, h2⟩ := erF_ok R h0 ha
    exact ⟨h1.is x hx, fun y hy => by have := h2 _ _ hy; simpa using this⟩
  · rw [erF_away ha, rep_getD _ _ _ hx]
    exact ⟨.inl rfl, fun y hy => absurd hy.src ha⟩
theorem Alike.er {g g' : Gr} (h : Alike g g') {v t : Int} (h0 : 0 ≤ v) : (erF g' v t).1 = (erF g v t).1 := by
  have R := gChk_right h.ok
  have R' := gChk_right h.ok'
  have hh := R.hor
  refine list_ext_gd (by rw [(erF_len _ _ _).1, (erF_len _ _ _).1, h.lv]) fun x hx => ?_
  rw [(erF_len _ _ _).1] at hx
  obtain ⟨a1, a2⟩ := er_spec R h0 x (t := t) (by rw [← h.lv]; exact hx)
  obtain ⟨b1, b2⟩ := er_spec R' h0 x (t := t) hx
  rcases a1 with a1 | a1 <;> rcases b1 with b1 | b1
  · rw [a1, b1]
  · have h1 := a2 _ (h.symm.rch b1)
    have h2 := (b1.place R' h0).2.2.2
    rw [h.hor] at h2; omega
  · have h1 := b2 _ (h.rch a1)
    have h2 := (a1.place R h0).2.2.2
    omega
  · have h1 := a2 _ (h.symm.rch b1)
    have h2 := b2 _ (h.rch a1)
    omega
theorem twice_alike {g : Gr} (h0 : gChk g = 0) (h : (revG g).edges.length ≤ 30) : Alike g (revG (revG g)) := by
  have R := gChk_right h0
  have R1 := gChk_right (rev_right R h)
  exact ⟨h0, rev_right R1 (rev_few h), rev_lives g, rfl, fun a t b s c => rev_twice R h⟩

/-! backward is forward -/
theorem mir_rch {g g' : Gr} (h0 : gChk g = 0) (h0' : gChk g' = 0) (H : Int) (hal : ∀ t v, aliveB t g.lives v = true → aliveB (H - 1 - t) g'.lives v = true) (hop : ∀ a t b s c, Hop g a t b s c → Hop g' b (H - 1 - s) a (H - 1 - t) c) {v t q d : Int} (k : Rch g v t q d) : Rch g' q (H - 1 - d) v (H - 1 - t) := by
  have R := gChk_right h0
  refine rch_ind h0 (P := fun q d => Rch g' q (H - 1 - d) v (H - 1 - t)) (fun a => .base (hal _ _ a)) (fun x y k1 k2 a => ?_) (fun a y b s c k1 k2 p => ?_) k
  · refine Rch.trans (v1 := x) (t1 := H - 1 - y) ?_ k2
    have := Rch.wait (Rch.base (hal _ _ a)) (by rw [show H - 1 - (y + 1) + 1 = H - 1 - y by omega]; exact hal _ _ (k1.alive R))
    rwa [show H - 1 - (y + 1) + 1 = H - 1 - y by omega] at this
  · refine Rch.trans (v1 := a) (t1 := H - 1 - y) ?_ k2
    have hb : aliveB s g.lives b = true := by obtain ⟨_, _, _, _, _, _, _, _, _, _, h, _⟩ := p; exact h
    exact Rch.hop h0' (.base (hal _ _ hb)) (hop _ _ _ _ _ p)
theorem rev_rch {g : Gr} (h0 : gChk g = 0) (h : (revG g).edges.length ≤ 30) {v t q d : Int} : Rch g v t q d ↔ Rch (revG g) q (g.hor - 1 - d) v (g.hor - 1 - t) := by
  have R := gChk_right h0
  have h1 := rev_right R h
  refine ⟨fun k => mir_rch h0 h1 g.hor (fun t v a => by rw [rev_alive]; exact a) (fun a t b s c p => (rev_hop R).1 p) k, fun k => ?_⟩
  have hx : ∀ t : Int, g.hor - 1 - (g.hor - 1 - t) = t := fun t => by omega
  have := mir_rch h1 h0 g.hor (fun t v a => by rw [← hx t, rev_alive] at a; exact a) (fun a t b s c p => by
    rw [rev_hop R, hx, hx]; exact p) k
  rwa [hx, hx] at this
theorem lt_spec {g : Gr} (R : Right g) {q d : Int} (h0 : 0 ≤ q) (x : Nat) (hx : x < g.lives.length) : ((ltF g q d).getD x 0 = -1 ∨ Rch g (x : Int) ((ltF g q d).getD x 0) q d) ∧ ∀ y, Rch g (x : Int) y q d → y ≤ (ltF g q d).getD x 0 := by
  by_cases ha : aliveB d g.lives q = true
  · obtain ⟨h1, h2⟩ := ltF_ok R h0 ha
    exact ⟨h1.is x hx, fun y hy => by have := h2 _ _ (by omega) hy; simpa using this⟩
  · rw [ltF_away ha, rep_getD _ _ _ hx]
    exact ⟨.inl rfl, fun y hy => absurd (hy.alive R) ha⟩
/-- the latest times are the earliest ones, with time turned round -/
theorem turn_back {g : Gr} (h0 : gChk g = 0) (h : (revG g).edges.length ≤ 30) {q d : Int} (hq : 0 ≤ q) (x : Nat) (hx : x < g.lives.length) :
    ((ltF g q d).getD x 0 = -1 ∧ (erF (revG g) q (g.hor - 1 - d)).1.getD x 0 = 1099511627776) ∨ (0 ≤ (ltF g q d).getD x 0 ∧ (ltF g q d).getD x 0 < g.hor ∧ (erF (revG g) q (g.hor - 1 - d)).1.getD x 0 = g.hor - 1 - (ltF g q d).getD x 0) := by
  have R := gChk_right h0
  have R1 := gChk_right (rev_right R h)
  have hh := R.hor
  obtain ⟨a1, a2⟩ := lt_spec R hq (d := d) x hx
  obtain ⟨b1, b2⟩ := er_spec R1 hq (t := g.hor - 1 - d) x (by simpa [revG] using hx)
  have hy : ∀ t : Int, g.hor - 1 - (g.hor - 1 - t) = t := fun t => by omega
  have hE : ∀ y, Rch (revG g) q (g.hor - 1 - d) (x : Int) y → Rch g (x : Int) (g.hor - 1 - y) q d := fun y k => (rev_rch h0 h).2 (by rw [hy]; exact k)
  rcases a1 with a1 | a1
  · rcases b1 with b1 | b1
    · exact .inl ⟨a1, b1⟩
    · have h1 := a2 _ (hE _ b1)
      have h2 := (b1.place R1 hq).2.2.2
      have h3 : (revG g).hor = g.hor := rfl
      omega
  · have h2 := (a1.alive R)
    have h3 := alive_hor R a1.src
    have h4 := b2 _ ((rev_rch h0 h).1 a1)
    rcases b1 with b1 | b1
    · omega
    · have h5 := a2 _ (hE _ b1)
      exact .inr ⟨h3.2.1, h3.2.2, by omega⟩

end Go.Proofs.Ytanbbkoleekmjag
