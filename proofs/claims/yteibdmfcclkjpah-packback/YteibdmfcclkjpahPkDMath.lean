/-
  What the reference reads off a text's bytes: plain mathematics, and how the memory of a reading lies.
-/
import Derived.Test.YteibdmfcclkjpahPkNext
namespace Go.Proofs.Yteibdmfcclkjpah
open Go.RowKit

def rdLv (s : List UInt8) (st : Nat × Int) : Nat → (Nat × Int) × List (Int × Int)
  | 0 => (st, [])
  | k + 1 => ((nx s (nx s (rdLv s st k).1 65535).1 65535).1, (rdLv s st k).2 ++ [((nx s (rdLv s st k).1 65535).2, (nx s (nx s (rdLv s st k).1 65535).1 65535).2)])
def rd1 (s : List UInt8) (st : Nat × Int) : (Nat × Int) × Lg :=
  ((nx s (nx s (nx s (nx s st 65535).1 65535).1 65535).1 65535).1, ((nx s st 65535).2, (nx s (nx s st 65535).1 65535).2, (nx s (nx s (nx s st 65535).1 65535).1 65535).2, (nx s (nx s (nx s (nx s st 65535).1 65535).1 65535).1 65535).2))
def rdLg (s : List UInt8) (st : Nat × Int) : Nat → (Nat × Int) × List Lg
  | 0 => (st, [])
  | k + 1 => ((rd1 s (rdLg s st k).1).1, (rdLg s st k).2 ++ [(rd1 s (rdLg s st k).1).2])
/-- an edge: its ends, how many legs, and these -/
def rdA (s : List UInt8) (st : Nat × Int) : (Nat × Int) × Int := nx s st 65535
def rdB (s : List UInt8) (st : Nat × Int) : (Nat × Int) × Int := nx s (rdA s st).1 65535
def rdM (s : List UInt8) (st : Nat × Int) : (Nat × Int) × Int := nx s (rdB s st).1 6
def rdE (s : List UInt8) (st : Nat × Int) : (Nat × Int) × Ed := ((rdLg s (rdM s st).1 (rdM s st).2.toNat).1, ((rdA s st).2, (rdB s st).2, (rdLg s (rdM s st).1 (rdM s st).2.toNat).2))
def rdEs (s : List UInt8) (st : Nat × Int) : Nat → (Nat × Int) × List Ed
  | 0 => (st, [])
  | k + 1 => ((rdE s (rdEs s st k).1).1, (rdEs s st k).2 ++ [(rdE s (rdEs s st k).1).2])
def hdH (s : List UInt8) : (Nat × Int) × Int := nx s (0, 0) 65535
def hdV (s : List UInt8) : (Nat × Int) × Int := nx s (hdH s).1 12
def hdK (s : List UInt8) : (Nat × Int) × Int := nx s (hdV s).1 30
def rdLs (s : List UInt8) : (Nat × Int) × List (Int × Int) := rdLv s (hdK s).1 (hdV s).2.toNat
def rdG (s : List UInt8) : (Nat × Int) × Gr := ((rdEs s (rdLs s).1 (hdK s).2.toNat).1, ⟨(hdH s).2, (rdLs s).2, (rdEs s (rdLs s).1 (hdK s).2.toNat).2⟩)
/-- what Decode answers -/
def decA (s : List UInt8) : Gr × Int × Int :=
  if (rdG s).1.2 = 0 then
    if (rdG s).1.1 + 4 ≤ s.length then
      if (s.drop (rdG s).1.1).take 4 = sum4 (sumL (s.take (rdG s).1.1)) 4 then
        if gChk (rdG s).2 = 0 then ((rdG s).2, ((rdG s).1.1 + 4 : Nat), 0) else (⟨0, [], []⟩, 0, gChk (rdG s).2)
      else (⟨0, [], []⟩, 0, 5)
    else (⟨0, [], []⟩, 0, 5)
  else (⟨0, [], []⟩, 0, (rdG s).1.2)

theorem rdLv_at {s : List UInt8} {st : Nat × Int} (h : st.1 ≤ s.length) : ∀ k, (rdLv s st k).1.1 ≤ s.length
  | 0 => h
  | k + 1 => nx_at (nx_at (rdLv_at h k))
theorem rd1_at {s : List UInt8} {st : Nat × Int} (h : st.1 ≤ s.length) : (rd1 s st).1.1 ≤ s.length := nx_at (nx_at (nx_at (nx_at h)))
theorem rdLg_at {s : List UInt8} {st : Nat × Int} (h : st.1 ≤ s.length) : ∀ k, (rdLg s st k).1.1 ≤ s.length
  | 0 => h
  | k + 1 => rd1_at (rdLg_at h k)
theorem rdE_at {s : List UInt8} {st : Nat × Int} (h : st.1 ≤ s.length) : (rdE s st).1.1 ≤ s.length := rdLg_at (nx_at (nx_at (nx_at h))) _
theorem rdEs_at {s : List UInt8} {st : Nat × Int} (h : st.1 ≤ s.length) : ∀ k, (rdEs s st k).1.1 ≤ s.length
  | 0 => h
  | k + 1 => rdE_at (rdEs_at h k)
theorem rdLv_len (s : List UInt8) (st : Nat × Int) : ∀ k, (rdLv s st k).2.length = k
  | 0 => rfl
  | k + 1 => by rw [rdLv, List.length_append, rdLv_len s st k]; rfl
theorem rdLg_len (s : List UInt8) (st : Nat × Int) : ∀ k, (rdLg s st k).2.length = k
  | 0 => rfl
  | k + 1 => by rw [rdLg, List.length_append, rdLg_len s st k]; rfl
theorem rdEs_len (s : List UInt8) (st : Nat × Int) : ∀ k, (rdEs s st k).2.length = k
  | 0 => rfl
  | k + 1 => by rw [rdEs, List.length_append, rdEs_len s st k]; rfl

/-- the boxes of a reading: the text, the answer, the place, the error; the graph's memory lies behind them -/
structure DS (s : ByteArray) (w W : World) (B : Nat) (st : Nat × Int) : Prop where
  b2 : Bx2 (w.heap.size + 1 + 1) (w.heap.size + 1 + 1 + 1) st W
  sc : W.heap[w.heap.size]? = some (.cells #[.string s] 9 (0, 0))
  rb : W.heap[w.heap.size + 1]? = some (.cells #[.int .i64 0, .slice none 0 0, .slice none 0 0] 25 (0, 0))
  bel : Below w.heap.size w W
  low : B = w.heap.size + 1 + 1 + 1 + 1
theorem DS.below {s : ByteArray} {w W W' : World} {B : Nat} {st : Nat × Int} (h : DS s w W B st) (hb : Below B W W') : DS s w W' B st := by
  have hl := h.low
  exact ⟨⟨(hb.block _ (by omega)).trans h.b2.a, (hb.block _ (by omega)).trans h.b2.e⟩, (hb.block _ (by omega)).trans h.sc, (hb.block _ (by omega)).trans h.rb, h.bel.trans (hb.mono (by omega)), h.low⟩
theorem DS.kn {s : ByteArray} {w W W' : World} {B : Nat} {st st' : Nat × Int} (h : DS s w W B st) (k : Kn w.heap.size (w.heap.size + 1 + 1) (w.heap.size + 1 + 1 + 1) W W') (b2 : Bx2 (w.heap.size + 1 + 1) (w.heap.size + 1 + 1 + 1) st' W') : DS s w W' B st' :=
  ⟨b2, (k.blk _ (by omega) (by omega)).trans h.sc, (k.blk _ (by omega) (by omega)).trans h.rb, h.bel.trans k.bel, h.low⟩
theorem GOwn.moved {B b : Nat} {w W : World} {hor : Int} {vL vE : Value} {lives : List (Int × Int)} {L : List (Ed × Value)} (h : GOwn B b w hor vL vE lives L) (h3 : ∀ k, B ≤ k → k < w.heap.size → W.heap[k]? = w.heap[k]?) : GOwn B b W hor vL vE lives L := by
  have mv : ∀ {e size n : Nat} {v : Value} {xs : List Value}, w.ownsRow B e size v n xs → W.ownsRow B e size v n xs := by
    intro e size n v xs h
    refine ⟨h.1, ?_⟩
    rcases h.2 with h0 | ⟨g, cap, cur, e1, hb, hh, h4⟩
    · exact .inl h0
    · exact .inr ⟨g, cap, cur, e1, hb, by rw [h3 g hb (heap_ltg hh)]; exact hh, h4⟩
  exact ⟨by rw [h3 b h.low (heap_ltg h.box)]; exact h.box, h.low, mv h.lv, mv h.ed, fun p hp => mv (h.lg p hp), h.ap⟩
theorem GOwn.kn {B b base AB EB : Nat} {w W : World} {hor : Int} {vL vE : Value} {lives : List (Int × Int)} {L : List (Ed × Value)} (h : GOwn B b w hor vL vE lives L) (k : Kn base AB EB w W) (hA : AB < B) (hE : EB < B) : GOwn B b W hor vL vE lives L :=
  h.moved fun j h1 _ => k.blk j (by omega) (by omega)
/-- an edge whose legs lie in memory of their own -/
theorem GOwn.edgeW {B b : Nat} {w wa w1 : World} {hor : Int} {vL vE v' v : Value} {lives : List (Int × Int)} {L : List (Ed × Value)} {x y : Int} {legs : List Lg} (h : GOwn B b w hor vL vE lives L) (hb : Below w.heap.size w wa) (hg : wa.grownBy w1 vE.ownBlock)
    (hv : wa.ownsRow B 70 4 v legs.length (enc4 legs)) (hf : ∀ q ∈ L, ∀ k, q.2.ownBlock = some k → v.ownBlock ≠ some k) (ho : w1.ownsRow B 68 3 v' (L.length + 1) (encE L ++ [.int .i64 x, .int .i64 y, v])) :
    w1.heap[b]? = some (.cells #[.int .i64 hor, vL, vE] 25 (0, 0)) ∧ GOwn B b (w1.setCell ⟨b, 2, none⟩ v') hor vL v' lives (L ++ [((x, y, legs), v)]) := by
  have ha := h.below hb
  have hbox : w1.heap[b]? = some (.cells #[.int .i64 hor, vL, vE] 25 (0, 0)) := by rw [hg.block b (heap_ltg ha.box) (fun k => row_ne ha.ed ha.box (by decide) k.symm)]; exact ha.box
  have hlv := row_grown ha.lv ha.ed hg (by decide)
  have hlg := fun p hp => row_grown (ha.lg p hp) ha.ed hg (by decide)
  have hv1 := row_grown hv ha.ed hg (by decide)
  refine ⟨hbox, by rw [box_set hbox]; rfl, h.low, row_set hlv (row_ne hlv hbox (by decide)), ?_, fun p hp => ?_, fun M p e q hq => ?_⟩
  · have := row_set (b := b) (j := 2) (u := v') ho (row_ne ho hbox (by decide))
    rw [List.length_append, encE_append]
    exact this
  · rcases List.mem_append.1 hp with k | k
    · exact row_set (hlg p k) (row_ne (hlg p k) hbox (by decide))
    · rw [List.mem_singleton.1 k]
      exact row_set hv1 (row_ne hv1 hbox (by decide))
  · have e2 := List.append_inj_right' e rfl
    have e1 := List.append_inj_left' e rfl
    simp only [List.cons.injEq, and_true] at e2
    subst e2 e1
    cases hq' : q.2.ownBlock with
    | none => exact .inl rfl
    | some k => exact .inr fun hk => hf q hq k hq' hk.symm

/-- an edge that is being read, its legs in memory of their own behind its box -/
structure LS (w0 W : World) (B XB : Nat) (eA eB : Int) (vG : Value) (legs : List Lg) : Prop where
  ag : ∀ b, B ≤ b → b < XB → W.heap[b]? = w0.heap[b]?
  bx : W.heap[XB]? = some (.cells #[.int .i64 eA, .int .i64 eB, vG] 68 (0, 0))
  lg : W.ownsRow (XB + 1) 70 4 vG legs.length (enc4 legs)
theorem LS.kn {w0 W W' : World} {B XB base AB EB : Nat} {eA eB : Int} {vG : Value} {legs : List Lg} (h : LS w0 W B XB eA eB vG legs) (k : Kn base AB EB W W') (hA : AB < B) (hE : EB < B) (hX : B ≤ XB) : LS w0 W' B XB eA eB vG legs := by
  refine ⟨fun b h1 h2 => (k.blk b (by omega) (by omega)).trans (h.ag b h1 h2), (k.blk XB (by omega) (by omega)).trans h.bx, h.lg.1, ?_⟩
  rcases h.lg.2 with h0 | ⟨g, cap, cur, e1, hb, hh, h4⟩
  · exact .inl h0
  · exact .inr ⟨g, cap, cur, e1, hb, (k.blk g (by omega) (by omega)).trans hh, h4⟩
theorem LS.below {w0 W W' : World} {B XB : Nat} {eA eB : Int} {vG : Value} {legs : List Lg} (h : LS w0 W B XB eA eB vG legs) (hb : Below W.heap.size W W') : LS w0 W' B XB eA eB vG legs := by
  have hX := heap_ltg h.bx
  exact ⟨fun b h1 h2 => (hb.block b (by omega)).trans (h.ag b h1 h2), (hb.block XB hX).trans h.bx, ownsRow_below h.lg hb⟩
theorem LS.setY {w0 W : World} {B XB YB : Nat} {eA eB : Int} {vG : Value} {legs : List Lg} (h : LS w0 W B XB eA eB vG legs) (hY : XB < YB) (hne : vG.ownBlock ≠ some YB) (j : Nat) (u : Value) : LS w0 (W.setCell ⟨YB, j, none⟩ u) B XB eA eB vG legs :=
  ⟨fun b h1 h2 => by rw [Below.heap_setCell _ _ _ _ (by show b ≠ YB; omega)]; exact h.ag b h1 h2, by rw [Below.heap_setCell _ _ _ _ (by show XB ≠ YB; omega)]; exact h.bx, row_set h.lg hne⟩
theorem LS.push {w0 W wa w1 : World} {B XB : Nat} {eA eB : Int} {vG v' : Value} {legs : List Lg} {l : Lg} (h : LS w0 W B XB eA eB vG legs) (hb : Below W.heap.size W wa) (hg : wa.grownBy w1 vG.ownBlock) (ho : w1.ownsRow (XB + 1) 70 4 v' (legs.length + 1) (enc4 legs ++ [.int .i64 l.1, .int .i64 l.2.1, .int .i64 l.2.2.1, .int .i64 l.2.2.2])) :
    w1.heap[XB]? = some (.cells #[.int .i64 eA, .int .i64 eB, vG] 68 (0, 0)) ∧ LS w0 (w1.setCell ⟨XB, 2, none⟩ v') B XB eA eB v' (legs ++ [l]) := by
  have ha := h.below hb
  have hX := heap_ltg ha.bx
  have hne : ∀ b, b ≤ XB → some b ≠ vG.ownBlock := fun b hb e => by have := (ha.lg.lt b e.symm).1; omega
  have hbox : w1.heap[XB]? = some (.cells #[.int .i64 eA, .int .i64 eB, vG] 68 (0, 0)) := by rw [hg.block XB hX (hne XB (Nat.le_refl _))]; exact ha.bx
  refine ⟨hbox, fun b h1 h2 => ?_, by rw [box_set hbox]; rfl, ?_⟩
  · rw [Below.heap_setCell _ _ _ _ (by show b ≠ XB; omega), hg.block b (by omega) (hne b (by omega))]; exact ha.ag b h1 h2
  · have := row_set (b := XB) (j := 2) (u := v') ho (fun e => by have := (ho.lt XB e).1; omega)
    rw [List.length_append, enc4_append]
    exact this

theorem ext_take (s : ByteArray) (k : Nat) : (s.extract 0 k).data.toList = s.data.toList.take k := by simp [ByteArray.data_extract]
theorem sum4_get (n : Nat) : ∀ (k j : Nat), j < k → (sum4 n k)[j]? = some (UInt8.ofNat (n / 256 ^ j % 256))
  | 0, _, h => by omega
  | k + 1, j, h => by
    rw [sum4]
    by_cases e : j = k
    · subst e
      rw [List.getElem?_append_right (by rw [sum4_len]; exact Nat.le_refl _), sum4_len, Nat.sub_self]; rfl
    · rw [List.getElem?_append_left (by rw [sum4_len]; omega)]
      exact sum4_get n k j (by omega)
/-- the four bytes of a sum, one by one -/
theorem sum_same {l : List UInt8} {kk n : Nat} (h4 : kk + 4 ≤ l.length) : (l.drop kk).take 4 = sum4 n 4 ↔ ∀ j, j < 4 → l.getD (kk + j) 0 = UInt8.ofNat (n / 256 ^ j % 256) := by
  constructor
  · intro h j hj
    have h1 := sum4_get n 4 j hj
    rw [← h, List.getElem?_take_of_lt hj, List.getElem?_drop] at h1
    rw [List.getD_eq_getElem?_getD, h1]; rfl
  · intro h
    apply List.ext_getElem?
    intro j
    by_cases hj : j < 4
    · rw [sum4_get n 4 j hj, List.getElem?_take_of_lt hj, List.getElem?_drop]
      have h1 := h j hj
      rw [List.getD_eq_getElem?_getD, List.getElem?_eq_getElem (by omega)] at h1
      rw [List.getElem?_eq_getElem (by omega)]
      exact congrArg some h1
    · rw [List.getElem?_eq_none (by simp; omega), List.getElem?_eq_none (by rw [sum4_len]; omega)]

end Go.Proofs.Yteibdmfcclkjpah
