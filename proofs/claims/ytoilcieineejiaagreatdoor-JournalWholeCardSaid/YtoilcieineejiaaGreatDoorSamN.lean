/- Plain mathematics of texts held against each other: what Bit, Less, Any and Choose answer. No program is reached here; no conditions but those that each lemma names. -/
import Derived.Test.YtoilcieineejiaaGreatDoorLOct
import Derived.Laws.BitsAllLaws
namespace Go.Proofs.YtoilcieineejiaaGreatDoor.SamN
/-- What is gathered of the first so many bytes. -/
def acc (f : Nat → UInt8) : Nat → UInt8
  | 0 => 0
  | j + 1 => acc f j ||| f j
theorem or_zero (a b : UInt8) : a ||| b = 0 ↔ a = 0 ∧ b = 0 := by
  rw [← UInt8.toNat_inj, UInt8.toNat_or, ← UInt8.toNat_inj, ← UInt8.toNat_inj]
  exact Nat.or_eq_zero_iff
theorem acc_zero (f : Nat → UInt8) (n : Nat) : acc f n = 0 ↔ ∀ i, i < n → f i = 0 := by
  induction n with
  | zero => simp [acc]
  | succ k ih =>
    rw [acc, or_zero, ih]
    constructor
    · rintro ⟨h1, h2⟩ i hi
      rcases Nat.lt_succ_iff_lt_or_eq.1 hi with h | rfl
      · exact h1 i h
      · exact h2
    · intro h
      exact ⟨fun i hi => h i (by omega), h k (by omega)⟩
/-- 1 if some byte is not 0, else 0. -/
def some1 (f : Nat → UInt8) (n : Nat) : Int := if acc f n = 0 then 0 else 1
theorem some1_01 (f : Nat → UInt8) (n : Nat) : 0 ≤ some1 f n ∧ some1 f n ≤ 1 := by unfold some1; split <;> omega
theorem some1_shift (f : Nat → UInt8) (n : Nat) : (((acc f n).toNat : Int) + 255) / 2 ^ 8 = some1 f n := by
  unfold some1
  have hb := (acc f n).toNat_lt
  by_cases h : acc f n = 0
  · rw [if_pos h, h]; rfl
  · rw [if_neg h]
    have : (acc f n).toNat ≠ 0 := fun e => h (UInt8.toNat_inj.1 (by simpa using e))
    omega
theorem xor_zero (a b : UInt8) : a ^^^ b = 0 ↔ a = b := UInt8.xor_eq_zero_iff
theorem getD_ext (a b : List UInt8) (h : a.length = b.length) : (∀ i, i < a.length → a.getD i 0 = b.getD i 0) ↔ a = b := by
  constructor
  · intro hi
    refine List.ext_getElem h fun i h1 h2 => ?_
    have := hi i h1
    simpa [List.getD, h1, h2] using this
  · rintro rfl i _
    rfl
/-- 1 if both are the same, else 0. -/
def bit (a b : List UInt8) : Int := if a = b then 1 else 0
theorem bit_some (a b : List UInt8) (h : a.length = b.length) : 1 - some1 (fun i => a.getD i 0 ^^^ b.getD i 0) a.length = bit a b := by
  have e : acc (fun i => a.getD i 0 ^^^ b.getD i 0) a.length = 0 ↔ a = b := by
    rw [acc_zero, ← getD_ext a b h]
    simp only [xor_zero]
  unfold some1 bit
  by_cases hh : a = b
  · rw [if_pos (e.2 hh), if_pos hh]; rfl
  · rw [if_neg (fun g => hh (e.1 g)), if_neg hh]; rfl
theorem bit_len (a b : List UInt8) (h : ¬ a.length = b.length) : bit a b = 0 := if_neg (fun e => h (by rw [e]))
/-- 1 if a byte is not 0, else 0. -/
def any (s : List UInt8) : Int := if s = List.replicate s.length 0 then 0 else 1
theorem any_some (s : List UInt8) : some1 (fun i => s.getD i 0) s.length = any s := by
  have e : acc (fun i => s.getD i 0) s.length = 0 ↔ s = List.replicate s.length 0 := by
    rw [acc_zero, ← getD_ext s (List.replicate s.length 0) (by simp)]
    constructor
    · intro h i hi
      rw [h i hi]
      simp [List.getD, hi]
    · intro h i hi
      rw [h i hi]
      simp [List.getD, hi]
  unfold some1 any
  by_cases hh : s = List.replicate s.length 0
  · rw [if_pos (e.2 hh), if_pos hh]
  · rw [if_neg (fun g => hh (e.1 g)), if_neg hh]
/-- What is borrowed, behind the last so many bytes. -/
def bor (a b : List UInt8) (j : Nat) : Nat := if num (a.drop (a.length - j)) < num (b.drop (a.length - j)) then 1 else 0
theorem bor_zero (a b : List UInt8) (h : a.length = b.length) : bor a b 0 = 0 := by
  rw [bor, Nat.sub_zero, List.drop_length, h, List.drop_length]; rfl
theorem bor_le (a b : List UInt8) (j : Nat) : bor a b j ≤ 1 := by unfold bor; split <;> omega
theorem drop_at (l : List UInt8) (k : Nat) (h : k < l.length) : l.drop k = l.getD k 0 :: l.drop (k + 1) := by
  rw [List.drop_eq_getElem_cons h]; simp [List.getD, h]
theorem bor_next (a b : List UInt8) (j at_ : Nat) (h : a.length = b.length) (hj : j < a.length) (hat : at_ = a.length - 1 - j) :
    bor a b (j + 1) = if (a.getD at_ 0).toNat < (b.getD at_ 0).toNat + bor a b j then 1 else 0 := by
  have e1 : a.length - (j + 1) = at_ := by omega
  have e2 : a.length - j = at_ + 1 := by omega
  unfold bor
  rw [e1, e2, drop_at a at_ (by omega), drop_at b at_ (by omega), num_cons, num_cons]
  have h1 := num_lt (a.drop (at_ + 1))
  have h2 := num_lt (b.drop (at_ + 1))
  have h3 : (a.drop (at_ + 1)).length = (b.drop (at_ + 1)).length := by simp [h]
  rw [← h3] at h2 ⊢
  generalize 256 ^ (a.drop (at_ + 1)).length = p at *
  generalize num (a.drop (at_ + 1)) = x at *
  generalize num (b.drop (at_ + 1)) = y at *
  generalize (a.getD at_ 0).toNat = m at *
  generalize (b.getD at_ 0).toNat = n at *
  have key : p * m + x < p * n + y ↔ m < n + (if x < y then 1 else 0) := by
    rcases Nat.lt_trichotomy m n with hl | rfl | hg
    · have := Nat.mul_le_mul_left p hl
      rw [Nat.mul_succ] at this
      constructor
      · intro _; omega
      · intro _; omega
    · by_cases hxy : x < y
      · rw [if_pos hxy]; omega
      · rw [if_neg hxy]; omega
    · have := Nat.mul_le_mul_left p hg
      rw [Nat.mul_succ] at this
      constructor
      · intro _; omega
      · intro hh
        split at hh <;> omega
  by_cases hk : p * m + x < p * n + y
  · rw [if_pos hk, if_pos (key.1 hk)]
  · rw [if_neg hk, if_neg (fun g => hk (key.2 g))]
/-- What is borrowed of a byte less another one less what was borrowed. -/
def nb (x y : UInt8) (b : Nat) : Nat := if x.toNat < y.toNat + b then 1 else 0
theorem nb_le (x y : UInt8) (b : Nat) : nb x y b ≤ 1 := by unfold nb; split <;> omega
/-- 1 if the one is less than the other one, of as many bytes, else 0. -/
def less (a b : List UInt8) : Int := if a.length = b.length ∧ num a < num b then 1 else 0
theorem less_bor (a b : List UInt8) (h : a.length = b.length) : (bor a b a.length : Int) = less a b := by
  unfold bor less
  rw [Nat.sub_self, List.drop_zero, List.drop_zero]
  by_cases hh : num a < num b
  · rw [if_pos hh, if_pos ⟨h, hh⟩]; rfl
  · rw [if_neg hh, if_neg (fun g => hh g.2)]; rfl
theorem less_len (a b : List UInt8) (h : ¬ a.length = b.length) : less a b = 0 := if_neg (fun e => h e.1)
/-- A byte that is one or the other, by the mask. -/
def pick (m x y : UInt8) : UInt8 := (x &&& m) ||| (y &&& ~~~m)
theorem ones : ∀ (i : Nat) (h : i < 8), (255#8)[i] = true := by decide
theorem pick_all (x y : UInt8) : pick 255 x y = x := by
  unfold pick
  apply UInt8.eq_of_toBitVec_eq
  simp only [UInt8.toBitVec_and, UInt8.toBitVec_or, UInt8.toBitVec_not]
  ext i hi
  simpa using fun _ => ones i hi
theorem pick_none (x y : UInt8) : pick 0 x y = y := by
  unfold pick
  apply UInt8.eq_of_toBitVec_eq
  simp only [UInt8.toBitVec_and, UInt8.toBitVec_or, UInt8.toBitVec_not]
  ext i hi
  simpa using fun _ => ones i hi
def pickL (m : UInt8) (a b : List UInt8) : List UInt8 := (List.range a.length).map fun i => pick m (a.getD i 0) (b.getD i 0)
theorem pickL_all (a b : List UInt8) : pickL 255 a b = a := by
  refine List.ext_getElem (by simp [pickL]) fun i h1 h2 => ?_
  simp [pickL, pick_all, List.getD, h2]
theorem pickL_none (a b : List UInt8) (h : a.length = b.length) : pickL 0 a b = b := by
  refine List.ext_getElem (by simp [pickL, h]) fun i h1 h2 => ?_
  simp [pickL, pick_none, List.getD, h2]
theorem x8 (a b : UInt8) : bits .xor .u8 (a.toNat : Int) (b.toNat : Int) = ((a ^^^ b).toNat : Int) := by
  rw [u8_xor_nat _ _ a.toNat_lt b.toNat_lt, UInt8.toNat_xor]
theorem o8 (a b : UInt8) : bits .or .u8 (a.toNat : Int) (b.toNat : Int) = ((a ||| b).toNat : Int) := by
  rw [u8_or_nat _ _ a.toNat_lt b.toNat_lt, UInt8.toNat_or]
theorem a8 (a b : UInt8) : bits .and .u8 (a.toNat : Int) (b.toNat : Int) = ((a &&& b).toNat : Int) := by
  rw [u8_and_nat _ _ a.toNat_lt b.toNat_lt, UInt8.toNat_and]
theorem n8 (a b : UInt8) : bits .andNot .u8 (a.toNat : Int) (b.toNat : Int) = ((a &&& ~~~b).toNat : Int) := by
  rw [u8_andNot_nat _ _ a.toNat_lt b.toNat_lt, UInt8.toNat_and, UInt8.toNat_not]
  rfl
theorem pick8 (m x y : UInt8) : bits .or .u8 (bits .and .u8 (x.toNat : Int) (m.toNat : Int)) (bits .andNot .u8 (y.toNat : Int) (m.toNat : Int)) = ((pick m x y).toNat : Int) := by
  rw [a8, n8, o8]; rfl
theorem at_list (l : List UInt8) (i : Nat) (h : i < (⟨l.toArray⟩ : ByteArray).size) : (⟨l.toArray⟩ : ByteArray)[i]'h = l.getD i 0 := by
  have h2 : i < l.length := h
  simp only [List.getD, List.getElem?_eq_getElem h2, Option.getD_some]
  rfl
end Go.Proofs.YtoilcieineejiaaGreatDoor.SamN
