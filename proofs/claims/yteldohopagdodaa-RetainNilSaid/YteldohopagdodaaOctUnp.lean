/- Plain mathematics: several numbers, each in its width, taken off a row of bytes. No program is reached here; no conditions. -/
import Derived.Test.YteldohopagdodaaOctNum
namespace Go.Proofs.Yteldohopagdodaa
/-- How many bytes the first 'i' widths say together. -/
def sumTo (ws : List Int) : Nat → Nat
  | 0 => 0
  | i + 1 => sumTo ws i + (ws.getD i 0).toNat
def widthsTo (ws : List Int) (i : Nat) : Prop := ∀ j, j < i → 1 ≤ ws.getD j 0 ∧ ws.getD j 0 ≤ 8
def piece (ws : List Int) (l : List UInt8) (i : Nat) : List UInt8 := (l.drop (sumTo ws i)).take (ws.getD i 0).toNat
def numsTo (ws : List Int) (l : List UInt8) : Nat → List Int
  | 0 => []
  | i + 1 => numsTo ws l i ++ [(get (piece ws l i)).1]
def gotTo (ws : List Int) (l : List UInt8) (i : Nat) : Prop := ∀ j, j < i → (get (piece ws l j)).2 = 0
/-- What Unpack answers: the numbers and the error's number. -/
def unpack (ws : List Int) (l : List UInt8) : List Int × Int :=
  if ∀ j, j < ws.length → 1 ≤ ws.getD j 0 ∧ ws.getD j 0 ≤ 8 then
    if l.length = sumTo ws ws.length then if ∀ j, j < ws.length → (get (piece ws l j)).2 = 0 then (numsTo ws l ws.length, 0) else ([], 3) else ([], 3)
  else ([], 2)
theorem unpack_width (ws : List Int) (l : List UInt8) (h : ¬ widthsTo ws ws.length) : unpack ws l = ([], 2) := if_neg h
theorem unpack_sum (ws : List Int) (l : List UInt8) (h : widthsTo ws ws.length) (h2 : ¬ l.length = sumTo ws ws.length) : unpack ws l = ([], 3) := by
  have h' : ∀ j, j < ws.length → 1 ≤ ws.getD j 0 ∧ ws.getD j 0 ≤ 8 := h
  rw [unpack, if_pos h', if_neg h2]
theorem unpack_bad (ws : List Int) (l : List UInt8) (h : widthsTo ws ws.length) (h2 : l.length = sumTo ws ws.length) (h3 : ¬ gotTo ws l ws.length) : unpack ws l = ([], 3) := by
  have h' : ∀ j, j < ws.length → 1 ≤ ws.getD j 0 ∧ ws.getD j 0 ≤ 8 := h
  have h3' : ¬ ∀ j, j < ws.length → (get (piece ws l j)).2 = 0 := h3
  rw [unpack, if_pos h', if_pos h2, if_neg h3']
theorem unpack_good (ws : List Int) (l : List UInt8) (h : widthsTo ws ws.length) (h2 : l.length = sumTo ws ws.length) (h3 : gotTo ws l ws.length) : unpack ws l = (numsTo ws l ws.length, 0) := by
  have h' : ∀ j, j < ws.length → 1 ≤ ws.getD j 0 ∧ ws.getD j 0 ≤ 8 := h
  have h3' : ∀ j, j < ws.length → (get (piece ws l j)).2 = 0 := h3
  rw [unpack, if_pos h', if_pos h2, if_pos h3']
theorem numsTo_length (ws : List Int) (l : List UInt8) : ∀ i, (numsTo ws l i).length = i
  | 0 => rfl
  | i + 1 => by rw [numsTo, List.length_append, numsTo_length ws l i]; rfl
theorem sumTo_le (ws : List Int) : ∀ i, widthsTo ws i → sumTo ws i ≤ 8 * i
  | 0, _ => by simp [sumTo]
  | i + 1, h => by
    have h1 := sumTo_le ws i (fun j hj => h j (by omega))
    have h2 := (h i (by omega)).2
    rw [sumTo]
    omega
theorem sumTo_mono (ws : List Int) (i : Nat) : ∀ j, i ≤ j → sumTo ws i ≤ sumTo ws j
  | 0, h => by
    obtain rfl : i = 0 := by omega
    exact Nat.le_refl _
  | j + 1, h => by
    rcases Nat.lt_or_ge j i with h' | h'
    · obtain rfl : i = j + 1 := by omega
      exact Nat.le_refl _
    · have := sumTo_mono ws i j h'
      rw [sumTo]
      omega
theorem widthsTo_next {ws : List Int} {i : Nat} (h : widthsTo ws i) (h1 : 1 ≤ ws.getD i 0 ∧ ws.getD i 0 ≤ 8) : widthsTo ws (i + 1) := by
  intro j hj
  rcases Nat.lt_or_ge j i with h' | h'
  · exact h j h'
  · obtain rfl : j = i := by omega
    exact h1
theorem gotTo_next {ws : List Int} {l : List UInt8} {i : Nat} (h : gotTo ws l i) (h1 : (get (piece ws l i)).2 = 0) : gotTo ws l (i + 1) := by
  intro j hj
  rcases Nat.lt_or_ge j i with h' | h'
  · exact h j h'
  · obtain rfl : j = i := by omega
    exact h1
theorem get_no (l : List UInt8) (h : ¬ (get l).2 = 0) : get l = (0, 3) := by
  by_cases hg : 1 ≤ l.length ∧ l.length ≤ 8 ∧ num l < 9223372036854775808
  · exact absurd (by rw [get, if_pos hg]) h
  · exact get_bad l hg
theorem get_isInt (l : List UInt8) : -9223372036854775808 ≤ (get l).1 ∧ (get l).1 ≤ 9223372036854775807 := by
  by_cases hg : 1 ≤ l.length ∧ l.length ≤ 8 ∧ num l < 9223372036854775808
  · rw [get, if_pos hg]; have := hg.2.2; show _ ≤ ((num l : Nat) : Int) ∧ ((num l : Nat) : Int) ≤ _; omega
  · rw [get_bad l hg]; simp
theorem unpack_short (ws : List Int) (l : List UInt8) : (unpack ws l).1.length ≤ ws.length := by
  unfold unpack
  split
  · split
    · split
      · exact Nat.le_of_eq (numsTo_length ws l _)
      · simp
    · simp
  · simp
end Go.Proofs.Yteldohopagdodaa
