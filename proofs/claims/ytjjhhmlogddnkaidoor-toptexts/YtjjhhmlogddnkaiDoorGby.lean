/-
  Worlds that differ in one block, and in what is new.
-/
import Derived.Test.YtjjhhmlogddnkaiDoorPk1
namespace Go.Proofs.YtjjhhmlogddnkaiDoor
open Go.RowKit

theorem hideT {p : Prop} (h : p) : Hid p := h
theorem gby_of_below {w w' : World} (h : Below w.heap.size w w') (row : Option Nat) : w.grownBy w' row := ⟨h.os, h.tape, h.output, h.size, fun k hk _ => h.block k hk⟩
theorem gby_trans {a b c : World} {row : Option Nat} (h : a.grownBy b row) (k : b.grownBy c row) : a.grownBy c row :=
  ⟨k.os.trans h.os, k.tape.trans h.tape, k.output.trans h.output, Nat.le_trans h.size k.size, fun i hi hne => (k.block i (Nat.lt_of_lt_of_le hi h.size) hne).trans (h.block i hi hne)⟩
theorem gby_refl (w : World) (row : Option Nat) : w.grownBy w row := ⟨rfl, rfl, rfl, Nat.le_refl _, fun _ _ _ => rfl⟩
theorem gby_drewN {w w' : World} {row : Option Nat} (h : w.grownBy w' row) (n : Nat) : w.grownBy (w'.drewN n) row := ⟨h.os, h.tape, h.output, h.size, h.block⟩
theorem gby_setOne (w : World) (b j : Nat) (u : Value) : w.grownBy (w.setCell ⟨b, j, none⟩ u) (some b) :=
  ⟨rfl, rfl, rfl, by simp [World.setCell], fun k _ hk => Below.heap_setCell _ _ _ _ (fun e => hk (by simp [e]))⟩
/-- what an append to a row of the call's own leaves -/
theorem below_own {wq w3 : World} {B : Nat} {v : Value} (hB : B ≤ wq.heap.size) (o : Obj) (hgr : ((wq.alloc o).drew).grownBy w3 v.ownBlock) (hv : ∀ j, v.ownBlock = some j → B ≤ j) : Below B wq w3 :=
  (((Below.refl B wq).alloc hB o).drew).grown hgr (by simp; omega) hv
theorem gby_own {w1 wq w3 : World} {ge : Nat} {v : Value} (h : w1.grownBy wq (some ge)) (o : Obj) (hgr : ((wq.alloc o).drew).grownBy w3 v.ownBlock) (hv : ∀ j, v.ownBlock = some j → w1.heap.size ≤ j) : w1.grownBy w3 (some ge) := by
  have hb := below_own (B := w1.heap.size) h.size o hgr hv
  exact ⟨hb.os.trans h.os, hb.tape.trans h.tape, hb.output.trans h.output, Nat.le_trans h.size hb.size, fun k hk hne => (hb.block k hk).trans (h.block k hk hne)⟩
theorem gby_setHigh {w1 wq : World} {ge gb j : Nat} (h : w1.grownBy wq (some ge)) (hg : w1.heap.size ≤ gb) (u : Value) : w1.grownBy (wq.setCell ⟨gb, j, none⟩ u) (some ge) := by
  have hb := (Below.refl w1.heap.size wq).setCell (p := ⟨gb, j, none⟩) hg u
  exact ⟨hb.os.trans h.os, hb.tape.trans h.tape, hb.output.trans h.output, Nat.le_trans h.size hb.size, fun k hk hne => (hb.block k hk).trans (h.block k hk hne)⟩

end Go.Proofs.YtjjhhmlogddnkaiDoor
