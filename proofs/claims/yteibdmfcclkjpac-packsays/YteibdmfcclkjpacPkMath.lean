/-
  Graphs as bytes: sums, numbers, what is written and what is read: plain mathematics, without any program.
-/
import Derived.Test.YteibdmfcclkjpacGMath
namespace Go.Proofs.Yteibdmfcclkjpac

/-- one bit of a sum -/
def crcBit (c b : Nat) : Nat := if c % 2 = b then c / 2 else (c / 2) ^^^ 3988292384
/-- the first bits of a byte -/
def crcBits (x c : Nat) : Nat → Nat
  | 0 => c
  | m + 1 => crcBit (crcBits x c m) (x / 2 ^ m % 2)
def crcL (l : List UInt8) : Nat := l.foldl (fun c b => crcBits b.toNat c 8) 4294967295
def sumL (l : List UInt8) : Nat := 4294967295 - crcL l

theorem crcBit_lt {c b : Nat} (h : c < 4294967296) : crcBit c b < 4294967296 := by
  unfold crcBit
  split
  · omega
  · have : (c / 2) ^^^ 3988292384 < 2 ^ 32 := Nat.xor_lt_two_pow (by omega) (by omega)
    omega
theorem crcBits_lt {x c : Nat} (h : c < 4294967296) : ∀ m, crcBits x c m < 4294967296
  | 0 => h
  | m + 1 => crcBit_lt (crcBits_lt h m)
theorem crc_fold_lt : ∀ (l : List UInt8) (c : Nat), c < 4294967296 → l.foldl (fun c b => crcBits b.toNat c 8) c < 4294967296
  | [], _, h => h
  | _ :: l, _, h => crc_fold_lt l _ (crcBits_lt h 8)
theorem crcL_lt (l : List UInt8) : crcL l < 4294967296 := crc_fold_lt l _ (by omega)
theorem crcL_take {l : List UInt8} {k : Nat} (hk : k < l.length) : crcL (l.take (k + 1)) = crcBits l[k].toNat (crcL (l.take k)) 8 := by
  unfold crcL
  rw [List.take_succ_eq_append_getElem hk, List.foldl_append]; rfl
theorem sumL_lt (l : List UInt8) : sumL l < 4294967296 := by unfold sumL; omega

/-- the numbers of a graph, in the order of its bytes -/
def numLv (p : Int × Int) : List Int := [p.1, p.2]
def numLg (l : Lg) : List Int := [l.1, l.2.1, l.2.2.1, l.2.2.2]
def numEd (e : Ed) : List Int := [e.1, e.2.1, (e.2.2.length : Int)] ++ e.2.2.flatMap numLg
def numHd (g : Gr) : List Int := [g.hor, (g.lives.length : Int), (g.edges.length : Int)]
def nums (g : Gr) : List Int := numHd g ++ (g.lives.flatMap numLv ++ g.edges.flatMap numEd)
/-- .. the first of them -/
def numsA (g : Gr) (k : Nat) : List Int := numHd g ++ (g.lives.take k).flatMap numLv
def numsB (g : Gr) (k : Nat) : List Int := numHd g ++ (g.lives.flatMap numLv ++ (g.edges.take k).flatMap numEd)
def numsC (g : Gr) (k : Nat) (e : Ed) (j : Nat) : List Int := numsB g k ++ ([e.1, e.2.1, (e.2.2.length : Int)] ++ (e.2.2.take j).flatMap numLg)
theorem numsA_succ {g : Gr} {k : Nat} (hk : k < g.lives.length) : numsA g (k + 1) = numsA g k ++ [g.lives[k].1, g.lives[k].2] := by
  unfold numsA; rw [List.take_succ_eq_append_getElem hk, List.flatMap_append]; simp [numLv]
theorem numsA_all (g : Gr) : numsA g g.lives.length = numsB g 0 := by unfold numsA numsB; simp
theorem numsC_zero (g : Gr) (k : Nat) (e : Ed) : numsC g k e 0 = numsB g k ++ [e.1, e.2.1, (e.2.2.length : Int)] := by unfold numsC; simp
theorem numsC_succ {g : Gr} {k j : Nat} {e : Ed} (hj : j < e.2.2.length) : numsC g k e (j + 1) = numsC g k e j ++ [e.2.2[j].1, e.2.2[j].2.1, e.2.2[j].2.2.1, e.2.2[j].2.2.2] := by
  unfold numsC; rw [List.take_succ_eq_append_getElem hj, List.flatMap_append]; simp [numLg]
theorem numsC_all {g : Gr} {k : Nat} (hk : k < g.edges.length) : numsC g k g.edges[k] g.edges[k].2.2.length = numsB g (k + 1) := by
  unfold numsC numsB; rw [List.take_succ_eq_append_getElem hk, List.flatMap_append, List.take_length]; simp [numEd]
theorem numsB_all (g : Gr) : numsB g g.edges.length = nums g := by unfold numsB nums; rw [List.take_length]
theorem flat2_len : ∀ l : List (Int × Int), (l.flatMap numLv).length = 2 * l.length
  | [] => rfl
  | _ :: l => by rw [List.flatMap_cons, List.length_append, flat2_len l]; simp [numLv]; omega
theorem flat4_len : ∀ l : List Lg, (l.flatMap numLg).length = 4 * l.length
  | [] => rfl
  | _ :: l => by rw [List.flatMap_cons, List.length_append, flat4_len l]; simp [numLg]; omega
theorem flatE_len : ∀ l : List Ed, (∀ e ∈ l, e.2.2.length ≤ 6) → (l.flatMap numEd).length ≤ 27 * l.length
  | [], _ => by simp
  | e :: l, h => by
    rw [List.flatMap_cons, List.length_append]
    have h1 := flatE_len l fun x hx => h x (List.mem_cons_of_mem _ hx)
    have h2 := h e (List.mem_cons_self ..)
    have h3 : (numEd e).length = 3 + 4 * e.2.2.length := by unfold numEd; rw [List.length_append, flat4_len]; rfl
    simp only [List.length_cons]
    omega
theorem numsA_len (g : Gr) (k : Nat) : (numsA g k).length ≤ 3 + 2 * g.lives.length := by
  unfold numsA numHd; rw [List.length_append, flat2_len, List.length_take]; simp; omega
theorem numsB_len {g : Gr} (R : Right g) (k : Nat) : (numsB g k).length ≤ 3 + 2 * g.lives.length + 27 * g.edges.length := by
  unfold numsB numHd; rw [List.length_append, List.length_append, flat2_len]
  have := flatE_len (g.edges.take k) fun e he => (R.ends e (List.mem_of_mem_take he)).2.2
  rw [List.length_take] at this
  simp only [List.length_cons, List.length_nil]; omega
theorem numsC_len {g : Gr} (R : Right g) (k j : Nat) (e : Ed) (he : e.2.2.length ≤ 6) : (numsC g k e j).length ≤ 30 + 2 * g.lives.length + 27 * g.edges.length := by
  unfold numsC
  rw [List.length_append, List.length_append, flat4_len, List.length_take]
  have := numsB_len R k
  simp; omega

/-- numbers as bytes, two each; a sum as four -/
def code1 (n : Int) : List UInt8 := [UInt8.ofNat (n.toNat / 256), UInt8.ofNat (n.toNat % 256)]
def codeL (l : List Int) : List UInt8 := l.flatMap code1
def sum4 (n : Nat) : Nat → List UInt8
  | 0 => []
  | k + 1 => sum4 n k ++ [UInt8.ofNat (n / 256 ^ k % 256)]
def coded (g : Gr) : List UInt8 := codeL (nums g) ++ sum4 (sumL (codeL (nums g))) 4
theorem codeL_take {l : List Int} {k : Nat} (hk : k < l.length) : codeL (l.take (k + 1)) = codeL (l.take k) ++ code1 l[k] := by
  unfold codeL; rw [List.take_succ_eq_append_getElem hk, List.flatMap_append]; simp
theorem codeL_len : ∀ l : List Int, (codeL l).length = 2 * l.length
  | [] => rfl
  | _ :: l => by unfold codeL at *; rw [List.flatMap_cons, List.length_append]; have := codeL_len l; unfold codeL at this; rw [this]; simp [code1]; omega
theorem sum4_len (n k : Nat) : (sum4 n k).length = k := by
  induction k with
  | zero => rfl
  | succ k ih => rw [sum4, List.length_append, ih]; rfl
/-- all numbers of a right graph are small -/
theorem nums_small {g : Gr} (R : Right g) : ∀ n ∈ nums g, 0 ≤ n ∧ n < 65536 := by
  have h1 := R.hor
  have h2 := R.lvs
  have h3 := R.eds
  intro n hn
  unfold nums numHd at hn
  rcases List.mem_append.1 hn with h | h
  · simp at h; omega
  · rcases List.mem_append.1 h with h | h
    · obtain ⟨p, hp, h⟩ := List.mem_flatMap.1 h
      have := R.life p hp
      simp [numLv] at h; omega
    · obtain ⟨e, he, h⟩ := List.mem_flatMap.1 h
      have h4 := R.ends e he
      unfold numEd at h
      rcases List.mem_append.1 h with h | h
      · simp at h; omega
      · obtain ⟨l, hl, h⟩ := List.mem_flatMap.1 h
        have h5 := (fitB_iff _ _).1 (R.legs e he l hl)
        simp [numLg] at h; omega

end Go.Proofs.Yteibdmfcclkjpac
