/-
  What number and numbers of the program read.
-/
import Derived.Test.YtjjhhmlogddnkaaDoorGRow
import Derived.Test.YtjjhhmlogddnkaaDoorGLib
import Derived.Deep.QuietTactic
import Derived.BigQuiet
namespace Go.Proofs.YtjjhhmlogddnkaaDoor
open Go.RowKit

/-- what is told of a word -/
def nmV (o : Option Int) : Value := .tuple #[.int .i64 (o.getD 0), .bool o.isSome]

theorem nm_none {l : List UInt8} (h : ¬ (1 ≤ l.length ∧ l.length ≤ 4 ∧ ¬ (l.head? = some 48 ∧ 1 < l.length) ∧ ∀ b ∈ l, dgB b = true)) : nm l = none := by
  unfold nm; rw [if_neg (fun k => h ((nmB_iff l).1 k))]
theorem nm_is {l : List UInt8} (h : 1 ≤ l.length ∧ l.length ≤ 4 ∧ ¬ (l.head? = some 48 ∧ 1 < l.length) ∧ ∀ b ∈ l, dgB b = true) : nm l = some ((nv 0 l : Nat) : Int) := by
  unfold nm; rw [if_pos ((nmB_iff l).2 h)]
theorem bdl (s : ByteArray) : s.toList = s.data.toList := ByteArray.toList_eq s
theorem nv_take (l : List UInt8) (k : Nat) (h : k < l.length) : nv 0 (l.take (k + 1)) = 10 * nv 0 (l.take k) + (l[k].toNat - 48) := by
  rw [List.take_succ_eq_append_getElem h, nv_snoc]
theorem all_take (l : List UInt8) (k : Nat) (h : k < l.length) (hk : ∀ b ∈ l.take k, dgB b = true) (hb : dgB l[k] = true) : ∀ b ∈ l.take (k + 1), dgB b = true := by
  intro b hb'
  rw [List.take_succ_eq_append_getElem h] at hb'
  rcases List.mem_append.1 hb' with q | q
  · exact hk b q
  · rw [List.mem_singleton.1 q]; exact hb

theorem byte_at (s : ByteArray) (k : Nat) (h : k < s.size) (h' : k < s.data.toList.length) : s.data.toList[k] = s[k]'h := by simp [ByteArray.getElem_eq_getElem_data]
theorem byte_in (s : ByteArray) (k : Nat) (h : k < s.size) : s[k] ∈ s.data.toList := by
  have h' : k < s.data.toList.length := by rw [Array.length_toList]; exact h
  rw [← byte_at s k h h']; exact List.getElem_mem h'
theorem nvs (s : ByteArray) (k : Nat) (h : k < s.size) : nv 0 (s.data.toList.take (k + 1)) = 10 * nv 0 (s.data.toList.take k) + (s[k].toNat - 48) := by
  have h' : k < s.data.toList.length := by rw [Array.length_toList]; exact h
  rw [nv_take _ k h', byte_at s k h h']
theorem alls (s : ByteArray) (k : Nat) (h : k < s.size) (hk : ∀ b ∈ s.data.toList.take k, dgB b = true) (hb : dgB s[k] = true) : ∀ b ∈ s.data.toList.take (k + 1), dgB b = true := by
  have h' : k < s.data.toList.length := by rw [Array.length_toList]; exact h
  exact all_take _ k h' hk (by rw [byte_at s k h h']; exact hb)

set_option maxHeartbeats 1000000 in
set_option maxRecDepth 100000 in
theorem number_any (s : ByteArray) (w : World) : Calls Tryd.prog 52 #[.string s] w fun e w' => e = .returned (nmV (nm s.data.toList)) ∧ w' = w := by
  have hsz : s.data.toList.length = s.size := by rw [Array.length_toList]; rfl
  by_cases h0 : s.size = 0
  · have hE : s.toList = [] := by rw [bdl]; exact List.eq_nil_of_length_eq_zero (by omega)
    have HN := hideg (nm_none (l := s.data.toList) (fun k => by omega))
    clear h0
    go_enter Tryd.func52, Tryd.ntmps52
    go_wp2
    rw [HN.out]
    go_ret2
    exact ⟨rfl, rfl⟩
  have hne : s.toList.isEmpty = false := by
    rw [bdl]; cases hl : s.data.toList with
    | nil => rw [hl] at hsz; simp at hsz; omega
    | cons _ _ => rfl
  have hne2 : ¬ s.toList = [] := fun k => by rw [k] at hne; simp at hne
  by_cases h4 : 4 < s.size
  · have HN := hideg (nm_none (l := s.data.toList) (fun k => by omega))
    have h4' : (4 : Int) < (s.size : Int) := by omega
    clear hsz
    go_enter Tryd.func52, Tryd.ntmps52
    go_wp2
    rw [HN.out]
    go_ret2
    exact ⟨rfl, rfl⟩
  have h4' : (s.size : Int) ≤ 4 := by omega
  have hp : 0 < s.size := by omega
  have H0 : Hid (s.data.toList.head? = some (s[0]'hp)) := by
    show _ = _
    rw [List.head?_eq_getElem?, List.getElem?_eq_getElem (by rw [hsz]; exact hp)]; rfl
  have H1 : Hid (s.toList = s.data.toList) := bdl s
  by_cases hz : s.data.toList.head? = some 48 ∧ 1 < s.data.toList.length
  · have HN := hideg (nm_none (l := s.data.toList) (fun k => k.2.2.1 hz))
    have e0 : s[0] = 48 := by have := H0.out; rw [hz.1] at this; exact (Option.some.inj this).symm
    have e1 : (s.toList == [48]) = false := by
      have : ¬ s.toList = [48] := fun k => by rw [H1.out] at k; rw [k] at hz; simp at hz
      simpa using this
    clear hz hsz
    go_enter Tryd.func52, Tryd.ntmps52
    go_wp2
    · rw [HN.out]
      go_ret2
      exact ⟨rfl, rfl⟩
  · have hd : (s[0] = 48 ∧ (s.toList == [48]) = true) ∨ ¬ (s[0].toNat : Int) = 48 := by
      by_cases e : s[0] = 48
      · refine .inl ⟨e, ?_⟩
        have h1 : s.data.toList.length ≤ 1 := by
          rcases Nat.lt_or_ge 1 s.data.toList.length with k | k
          · exact absurd ⟨by rw [H0.out, e], k⟩ hz
          · exact k
        rw [H1.out]
        cases hl : s.data.toList with
        | nil => rw [hl] at hsz; simp at hsz; omega
        | cons a t =>
          have h2 := H0.out
          rw [hl, List.head?_cons, e] at h2
          rw [hl] at h1
          have : t = [] := List.eq_nil_of_length_eq_zero (by rw [List.length_cons] at h1; omega)
          rw [this, Option.some.inj h2]; rfl
      · exact .inr fun k => e (UInt8.toNat_inj.1 (by have : (48 : UInt8).toNat = 48 := rfl; omega))
    have HZ := hideg hz
    have HSZ := hideg hsz
    clear hz hsz
    rcases hd with ⟨e0, e1⟩ | e0
    all_goals
      go_enter Tryd.func52, Tryd.ntmps52
      go_wp2
      go_loopw [4, 24] (fun n i wr => ∃ k : Nat, k ≤ s.size ∧ i = .int .i64 k ∧ n = .int .i64 (nv 0 (s.data.toList.take k) : Nat) ∧ (∀ b ∈ s.data.toList.take k, dgB b = true) ∧ wr = w) (fun _ i _ => s.size - (intOf i).toNat)
      case atStart => exact ⟨0, Nat.zero_le _, rfl, rfl, by simp, rfl⟩
      case round =>
        obtain ⟨k, hk, rfl, rfl, hall, rfl⟩ := hrel
        clear e0
        have HA := hideg hall
        clear hall
        by_cases hlt : k < s.size
        · have HV := hideg (nvs s k hlt)
          have HV2 := hideg (nv_bd _ HA.out (by simp; omega))
          by_cases hg : dgB s[k] = true
          · have hg2 := (dgB_iff _).1 hg
            have g1 : (48 : Int) ≤ (s[k].toNat : Int) := by omega
            have g2 : (s[k].toNat : Int) ≤ 57 := by omega
            have g3 : IntKind.u8.wrap ((s[k].toNat : Int) - 48) = (s[k].toNat : Int) - 48 := by unfold IntKind.wrap; simp [IntKind.bits, IntKind.signed]; omega
            have HA2 := hideg (alls s k hlt HA.out hg)
            have g4 : IntKind.i64.wrap (10 * ((nv 0 (s.data.toList.take k) : Nat) : Int)) = 10 * ((nv 0 (s.data.toList.take k) : Nat) : Int) := wrap_small _ (by omega) (by have := HV2.out; omega)
            have g5 : IntKind.i64.wrap (10 * ((nv 0 (s.data.toList.take k) : Nat) : Int) + ((s[k].toNat : Int) - 48)) = 10 * ((nv 0 (s.data.toList.take k) : Nat) : Int) + ((s[k].toNat : Int) - 48) := wrap_small _ (by omega) (by have := HV2.out; omega)
            clear hg
            go_wp2
            go_roundw
            case rel => exact ⟨k + 1, by omega, by go_num, by rw [HV.out]; congr 1; omega, HA2.out, trivial⟩
            case measure => simp [intOf]; omega
          · have HN := hideg (nm_none (l := s.data.toList) (fun q => hg (q.2.2.2 _ (byte_in s k hlt))))
            have hg2 : ¬ (48 ≤ s[k].toNat ∧ s[k].toNat ≤ 57) := fun q => hg ((dgB_iff _).2 q)
            clear hg
            go_wp2
            all_goals first
              | (exfalso; omega)
              | (rw [HN.out]; go_ret2; exact ⟨rfl, rfl⟩)
        · have hke : k = s.size := by omega
          subst hke
          have ht : s.data.toList.take s.size = s.data.toList := List.take_of_length_le (by rw [HSZ.out]; exact Nat.le_refl _)
          rw [ht] at HA ⊢
          have HN := hideg (nm_is (l := s.data.toList) ⟨by rw [HSZ.out]; omega, by rw [HSZ.out]; omega, HZ.out, HA.out⟩)
          clear ht
          go_wp2
          rw [HN.out]
          go_ret2
          exact ⟨rfl, rfl⟩

/-- words lie at ao -/
def WdAt (w : World) (ao : Option Addr) (ws : List ByteArray) : Prop :=
  ws = [] ∨ ∃ b off, ao = some ⟨b, off, none⟩ ∧ b < w.heap.size ∧ ∀ j (h : j < ws.length), w.cell? ⟨b, off + j, none⟩ = some (.string ws[j])
theorem WdAt.below {w w' : World} {ao : Option Addr} {m : List ByteArray} (h : WdAt w ao m) (hb : Below w.heap.size w w') : WdAt w' ao m := by
  rcases h with h | ⟨b, off, rfl, hlt, hc⟩
  · exact .inl h
  · exact .inr ⟨b, off, rfl, Nat.lt_of_lt_of_le hlt hb.size, fun j hj => by rw [hb.cell (p := ⟨b, off + j, none⟩) hlt]; exact hc j hj⟩

theorem nms_app_none : ∀ {a : List (List UInt8)} (b : List (List UInt8)), nms a = none → nms (a ++ b) = none
  | [], b, h => by simp [nms] at h
  | w :: a, b, h => by
    rw [List.cons_append, nms]
    rw [nms] at h
    cases e : nm w with
    | none => rfl
    | some n =>
      rw [e] at h
      cases e2 : nms a with
      | none => simp only [nms_app_none b e2]
      | some l => rw [e2] at h; simp at h
theorem nms_snoc_none : ∀ {a : List (List UInt8)} {w : List UInt8}, nm w = none → nms (a ++ [w]) = none
  | [], w, h => by simp [nms, h]
  | x :: a, w, h => by
    rw [List.cons_append, nms, nms_snoc_none h]
    cases nm x <;> rfl
theorem nms_snoc : ∀ {a : List (List UInt8)} {w : List UInt8} {l : List Int} {n : Int}, nms a = some l → nm w = some n → nms (a ++ [w]) = some (l ++ [n])
  | [], w, l, n, h, hn => by simp [nms] at h; subst h; simp [nms, hn]
  | x :: a, w, l, n, h, hn => by
    rw [nms] at h
    rw [List.cons_append, nms]
    cases e : nm x with
    | none => rw [e] at h; simp at h
    | some m =>
      rw [e] at h
      cases e2 : nms a with
      | none => rw [e2] at h; simp at h
      | some l' =>
        rw [e2] at h
        simp only [Option.some.injEq] at h
        subst h
        simp only [nms_snoc e2 hn, List.cons_append]
theorem nms_length : ∀ {a : List (List UInt8)} {l : List Int}, nms a = some l → l.length = a.length
  | [], l, h => by simp [nms] at h; subst h; rfl
  | x :: a, l, h => by
    rw [nms] at h
    cases e : nm x with
    | none => rw [e] at h; simp at h
    | some m =>
      rw [e] at h
      cases e2 : nms a with
      | none => rw [e2] at h; simp at h
      | some l' =>
        rw [e2] at h
        simp only [Option.some.injEq] at h
        subst h
        simp [nms_length e2]
/-- the numbers of words -/
def nmw (ws : List ByteArray) : Option (List Int) := nms (ws.map fun s => s.data.toList)
theorem nmw_succ {ws : List ByteArray} {k : Nat} (h : k < ws.length) : (∀ l n, nmw (ws.take k) = some l → nm ws[k].data.toList = some n → nmw (ws.take (k + 1)) = some (l ++ [n])) ∧ (nm ws[k].data.toList = none → nmw ws = none) := by
  refine ⟨fun l n h1 h2 => ?_, fun h2 => ?_⟩
  · unfold nmw
    rw [List.take_succ_eq_append_getElem h, List.map_append]
    exact nms_snoc h1 h2
  · unfold nmw
    have e : ws = ws.take (k + 1) ++ ws.drop (k + 1) := (List.take_append_drop _ _).symm
    have e2 : ws.map (fun s => s.data.toList) = (ws.take k).map (fun s => s.data.toList) ++ [ws[k].data.toList] ++ (ws.drop (k + 1)).map (fun s => s.data.toList) := by
      conv => lhs; rw [e]
      rw [List.map_append, List.take_succ_eq_append_getElem h, List.map_append]; rfl
    rw [e2]
    exact nms_app_none _ (nms_snoc_none h2)

set_option maxHeartbeats 2000000 in
set_option maxRecDepth 100000 in
theorem numbers_any (ao : Option Addr) (cap : Nat) (ws : List ByteArray) (w : World) (hW : WdAt w ao ws) (hn : ws.length ≤ 100000) :
    Calls Tryd.prog 47 #[.slice ao ws.length cap] w fun e w' => ∃ v, e = .returned (.tuple #[v, .bool (nmw ws).isSome]) ∧ w'.ownsRow w.heap.size 3 1 v ((nmw ws).getD []).length (((nmw ws).getD []).map (Value.int .i64)) ∧ Below w.heap.size w w' := by
  obtain ⟨i0, hi, hz0, hz1, hz2⟩ := info_parts Tryd.infoInt
  go_enter Tryd.func47, Tryd.ntmps47
  go_wp2
  go_loopw [4, 11] (fun v i wr => ∃ (k : Nat) (l : List Int), k ≤ ws.length ∧ i = .int .i64 k ∧ nmw (ws.take k) = some l ∧ l.length = k ∧ wr.ownsRow w.heap.size 3 1 v k (l.map (Value.int .i64)) ∧ Below w.heap.size w wr) (fun _ i _ => ws.length - (intOf i).toNat)
  case atStart => exact ⟨0, [], Nat.zero_le _, rfl, rfl, rfl, World.ownsRow_nil _ _ _ _, Below.refl _ _⟩
  case round =>
    obtain ⟨k, l, hk, rfl, hl, hll, hown, hb⟩ := hrel
    have HL := hideg hl
    have HLL := hideg hll
    have hsz := hb.size
    clear hl hll
    by_cases hlt : k < ws.length
    · rcases hW with h0 | ⟨b, off, rfl, hbl, hc⟩
      · subst h0; simp at hlt
      have c0 := (hb.cell (p := ⟨b, off + k, none⟩) hbl).trans (hc k hlt)
      have HS := hideg (nmw_succ hlt)
      have hx : Hid (∀ W, Calls Tryd.prog 52 #[.string ws[k]] W fun e w' => e = .returned (nmV (nm ws[k].data.toList)) ∧ w' = W) := fun W => number_any _ W
      have i1 : (k : Int) < (ws.length : Int) := by omega
      have i2 : (0 : Int) ≤ (k : Int) := by omega
      generalize ws[k] = s at *
      cases hm : nm s.data.toList with
      | none =>
        have HN := hideg (HS.out.2 hm)
        simp only [hm] at hx
        go_wp2_with (go_at_call 52; refine (hx.out _).mono ?_; rintro e w1 ⟨rfl, rfl⟩; simp only [nmV, Option.getD_none, Option.isSome_none])
        rw [HN.out]
        go_ret2
        exact ⟨_, rfl, World.ownsRow_nil _ _ _ _, hb⟩
      | some n =>
        have HN := hideg (HS.out.1 l n HL.out hm)
        simp only [hm] at hx
        go_wp2_with fail
        refine (hx.out _).mono ?_
        rintro e w1 ⟨rfl, rfl⟩
        simp only [nmV, Option.getD_some, Option.isSome_some]
        clear c0 hc hm
        go_wp2_with (at_builtin; refine wpList_append_lies _ rfl _ _ 71 rfl w.heap.size 3 i0 (.int .i64 0) 1 8 Tryd.underlying71 hi hz0 hz1 hz2 rfl (by decide) _ _ _ rfl (World.ownsRow.alloc (w := w1) hown _) ⟨w1.heap.size, 0, none⟩ 1 1 [.int .i64 n] rfl rfl ?c1 ?c2 (by decide) ?c3 ?c4 ?c5 (w1.heap.size + 1) ?c6 ?_)
        case c1 => exact World.news_of_block (cs := #[.int .i64 n]) (t := 3) (fr := (0, 0)) (heap_alloc_new w1 _)
        case c2 => intro u hu; simp at hu; subst hu; rfl
        case c3 => unfold maxLen; omega
        case c4 => omega
        case c5 => simp; omega
        case c6 => simp
        intro gg cap1 w2 hown2 hgrow hat hltg
        have HO2 := hideg hown2
        have HB2 := hideg ((hb.alloc hsz (.cells #[.int .i64 n] 3)).grown hgrow (by simp; omega) (fun j hj => (hown.lt j hj).1))
        clear hown hown2 hgrow hat hltg
        go_wp2
        go_roundw
        case rel => exact ⟨k + 1, l ++ [n], by omega, by go_num, HN.out, by simp [HLL.out], by rw [List.map_append]; exact HO2.out, HB2.out⟩
        case measure => simp [intOf]; omega
    · have hke : k = ws.length := by omega
      subst hke
      rw [List.take_length] at HL
      go_wp2
      rw [HL.out]
      go_ret2
      exact ⟨_, rfl, by simpa [HLL.out] using hown, hb⟩

end Go.Proofs.YtjjhhmlogddnkaaDoor
