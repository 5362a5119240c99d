/- OctNum OctUnp: one behind the other. -/
import Derived.WalkKit
/- Plain mathematics: numbers as rows of bytes, the highest byte first. No program is reached here; no conditions. -/
namespace Go.Proofs.YtoilcieineejiaaGreatDoor
/-- 'n' in 'k' bytes, the highest first. -/
def be : Nat → Nat → List UInt8
  | 0, _ => []
  | k + 1, n => UInt8.ofNat (n / 256 ^ k) :: be k n
/-- The number of a row of bytes. -/
def num : List UInt8 → Nat := fun l => l.foldl (fun a b => 256 * a + b.toNat) 0
theorem be_length : ∀ (k n : Nat), (be k n).length = k
  | 0, _ => rfl
  | k + 1, n => by simp [be, be_length k n]
theorem num_append (l m : List UInt8) : num (l ++ m) = 256 ^ m.length * num l + num m := by
  unfold num
  rw [List.foldl_append]
  generalize List.foldl _ 0 l = a
  have h : ∀ (m : List UInt8) (a : Nat), List.foldl (fun a b => 256 * a + b.toNat) a m = 256 ^ m.length * a + List.foldl (fun a b => 256 * a + b.toNat) 0 m := by
    intro m
    induction m with
    | nil => intro a; simp
    | cons x m ih =>
      intro a
      rw [List.foldl_cons, List.foldl_cons, ih, ih (256 * 0 + x.toNat)]
      simp only [List.length_cons, Nat.pow_succ, Nat.mul_add, Nat.mul_zero, Nat.zero_add]
      rw [Nat.mul_assoc (256 ^ m.length) 256 a]
      omega
  exact h m a
theorem num_snoc (l : List UInt8) (b : UInt8) : num (l ++ [b]) = 256 * num l + b.toNat := by
  rw [num_append]; simp [num]
theorem num_cons (b : UInt8) (l : List UInt8) : num (b :: l) = 256 ^ l.length * b.toNat + num l := by
  have := num_append [b] l
  simpa [num] using this
theorem num_lt (l : List UInt8) : num l < 256 ^ l.length := by
  induction l with
  | nil => simp [num]
  | cons b l ih =>
    rw [num_cons, List.length_cons, Nat.pow_succ]
    have hb : b.toNat ≤ 255 := by have := b.toNat_lt; omega
    have : 256 ^ l.length * b.toNat ≤ 256 ^ l.length * 255 := Nat.mul_le_mul_left _ hb
    omega
theorem num_be : ∀ (k n : Nat), num (be k n) = n % 256 ^ k
  | 0, n => by simp [be, num, Nat.mod_one]
  | k + 1, n => by
    rw [be, num_cons, be_length, num_be k n, UInt8.toNat_ofNat']
    have h : n % 256 ^ (k + 1) = n % 256 ^ k + 256 ^ k * (n / 256 ^ k % 256) := by
      rw [Nat.pow_succ, Nat.mod_mul]
    rw [h]
    simp only [Nat.reducePow]
    omega
theorem num_take_le (l : List UInt8) (k : Nat) : num (l.take k) ≤ num l := by
  have h := num_append (l.take k) (l.drop k)
  rw [List.take_append_drop] at h
  have hp : 0 < 256 ^ (l.drop k).length := Nat.pow_pos (by omega)
  have := Nat.le_mul_of_pos_left (num (l.take k)) hp
  omega
theorem num_head (b : UInt8) (l : List UInt8) (h : l.length = 7) : num (b :: l) < 9223372036854775808 ↔ b.toNat < 128 := by
  have h1 := num_lt l
  rw [num_cons, h] at *
  simp only [Nat.reducePow] at *
  omega
theorem take_snoc (s : ByteArray) (k : Nat) (h : k < s.size) : s.data.toList.take (k + 1) = s.data.toList.take k ++ [s[k]] := by
  rw [List.take_succ_eq_append_getElem (by simpa using h)]; rfl
theorem num_eight (s : ByteArray) (h : s.size = 8) : num s.data.toList < 9223372036854775808 ↔ (s[0]'(by omega)).toNat < 128 := by
  have hl : s.data.toList.length = 8 := by simpa using h
  have e : s.data.toList = s[0]'(by omega) :: s.data.toList.drop 1 := by
    conv => lhs; rw [← List.take_append_drop 1 s.data.toList, take_snoc s 0 (by omega)]
    rfl
  rw [e]
  exact num_head _ _ (by simp; omega)
theorem be_mod : ∀ (k n m : Nat), k ≤ m → be k (n % 256 ^ m) = be k n
  | 0, _, _, _ => rfl
  | k + 1, n, m, h => by
    rw [be, be, be_mod k n m (by omega)]
    congr 1
    apply UInt8.toNat_inj.1
    rw [UInt8.toNat_ofNat', UInt8.toNat_ofNat']
    obtain ⟨d, rfl⟩ : ∃ d, m = k + (d + 1) := ⟨m - k - 1, by omega⟩
    rw [Nat.pow_add, Nat.mod_mul_right_div_self, Nat.pow_succ, Nat.mul_comm, Nat.mod_mul_right_mod]
theorem be_four (n : Nat) : be 4 ((n : Int) % 4294967296).toNat = be 4 n := by
  have e : ((n : Int) % 4294967296).toNat = n % 256 ^ 4 := by omega
  rw [e, be_mod 4 n 4 (Nat.le_refl _)]
/-- A text behind its length in four bytes. -/
def text (s : ByteArray) : ByteArray := ⟨(be 4 s.size).toArray⟩ ++ s
theorem be_num : ∀ (l : List UInt8), be l.length (num l) = l
  | [] => rfl
  | b :: l => by
    have hl := num_lt l
    have hp : 0 < 256 ^ l.length := Nat.pow_pos (by omega)
    rw [List.length_cons, be, num_cons]
    have h1 : (256 ^ l.length * b.toNat + num l) / 256 ^ l.length = b.toNat := by
      rw [Nat.mul_add_div hp, Nat.div_eq_of_lt hl, Nat.add_zero]
    rw [h1]
    have h2 : ∀ (k a m : Nat), be k (256 ^ k * a + m) = be k m := by
      intro k
      have h3 : ∀ (j k a m : Nat), j ≤ k → be j (256 ^ k * a + m) = be j m := by
        intro j
        induction j with
        | zero => intros; rfl
        | succ j ih =>
          intro k a m hj
          rw [be, be, ih k a m (by omega)]
          congr 1
          obtain ⟨d, rfl⟩ : ∃ d, k = j + 1 + d := ⟨k - (j + 1), by omega⟩
          have : 256 ^ (j + 1 + d) * a + m = 256 ^ j * (256 * (256 ^ d * a)) + m := by
            rw [Nat.pow_add, Nat.pow_succ]; simp only [Nat.mul_assoc]
          rw [this, Nat.mul_add_div (Nat.pow_pos (by omega))]
          apply UInt8.toNat_inj.1
          rw [UInt8.toNat_ofNat', UInt8.toNat_ofNat']
          simp only [Nat.reducePow]
          omega
      intro a m
      exact h3 k k a m (Nat.le_refl _)
    rw [h2, be_num l]
    simp
theorem lt256 (n k : Nat) : (n : Int) < 256 ^ k ↔ n < 256 ^ k := by
  rw [show (256 : Int) ^ k = ((256 ^ k : Nat) : Int) from (Int.natCast_pow 256 k).symm]
  exact Int.ofNat_lt
/-- What Put answers: the bytes and the error's number. -/
def put (n width : Int) : List UInt8 × Int := if 1 ≤ width ∧ width ≤ 8 ∧ 0 ≤ n ∧ n < 256 ^ width.toNat then (be width.toNat n.toNat, 0) else ([], 2)
theorem put_good (n width : Int) (h1 : 1 ≤ width) (h2 : width ≤ 8) (h3 : 0 ≤ n) (h4 : n < 256 ^ width.toNat) : put n width = (be width.toNat n.toNat, 0) := if_pos ⟨h1, h2, h3, h4⟩
theorem put_bad (n width : Int) (h : ¬ (1 ≤ width ∧ width ≤ 8 ∧ 0 ≤ n ∧ n < 256 ^ width.toNat)) : put n width = ([], 2) := if_neg h
theorem or8 (n b : Nat) (hn : n < 72057594037927936) (hb : b < 256) : bits .or .u64 ((n : Int) * 256) (IntKind.u64.wrap (b : Int)) = ((256 * n + b : Nat) : Int) := by
  have e : IntKind.u64.wrap (b : Int) = (b : Int) := by simp [IntKind.wrap, IntKind.bits, IntKind.signed]; omega
  have e2 : (n : Int) * 256 = ((2 ^ 8 * n : Nat) : Int) := by omega
  rw [e, e2, u64_or_nat _ _ (by omega) (by omega), ← Nat.two_pow_add_eq_or_of_lt (by omega)]
/-- What Get answers: the number and the error's number. -/
def get (l : List UInt8) : Int × Int := if 1 ≤ l.length ∧ l.length ≤ 8 ∧ num l < 9223372036854775808 then (num l, 0) else (0, 3)
theorem get_good (l : List UInt8) (h1 : 1 ≤ l.length) (h2 : l.length ≤ 8) (h3 : num l < 9223372036854775808) : get l = ((num l : Int), 0) := if_pos ⟨h1, h2, h3⟩
theorem get_bad (l : List UInt8) (h : ¬ (1 ≤ l.length ∧ l.length ≤ 8 ∧ num l < 9223372036854775808)) : get l = (0, 3) := if_neg h
theorem less_num : ∀ (l m : List UInt8), l.length = m.length → Op.bytesLess l m = decide (num l < num m)
  | [], [], _ => by simp [Op.bytesLess, num]
  | [], _ :: _, h => by simp at h
  | _ :: _, [], h => by simp at h
  | a :: l, b :: m, h => by
    have h' : l.length = m.length := by simpa using h
    have h1 := num_lt l
    have h2 := num_lt m
    rw [Op.bytesLess, less_num l m h', num_cons, num_cons, ← h']
    rw [← h'] at h2
    generalize 256 ^ l.length = p at *
    rcases Nat.lt_trichotomy a.toNat b.toNat with hlt | heq | hgt
    · have hm : p * (a.toNat + 1) ≤ p * b.toNat := Nat.mul_le_mul_left _ hlt
      rw [Nat.mul_add] at hm
      have hd : a < b := UInt8.lt_iff_toNat_lt.2 hlt
      have : p * a.toNat + num l < p * b.toNat + num m := by omega
      simp [hd, this]
    · obtain rfl : a = b := UInt8.toNat_inj.1 heq
      simp
    · have hm : p * (b.toNat + 1) ≤ p * a.toNat := Nat.mul_le_mul_left _ hgt
      rw [Nat.mul_add] at hm
      have hd : ¬ a < b := fun hh => by have := UInt8.lt_iff_toNat_lt.1 hh; omega
      have hn : ¬ a = b := fun hh => by rw [hh] at hgt; omega
      have : ¬ p * a.toNat + num l < p * b.toNat + num m := by omega
      simp [hd, this, hn]
/-- What is put is as many bytes as the width, and tells the number. -/
theorem put_ok (n width : Int) (h : (put n width).2 = 0) : ∃ l, put n width = (l, 0) ∧ (l.length : Int) = width ∧ (num l : Int) = n := by
  by_cases hg : 1 ≤ width ∧ width ≤ 8 ∧ 0 ≤ n ∧ n < 256 ^ width.toNat
  · refine ⟨be width.toNat n.toNat, if_pos hg, by rw [be_length]; omega, ?_⟩
    obtain ⟨h1, h2, h3, h4⟩ := hg
    obtain ⟨m, rfl⟩ := Int.eq_ofNat_of_zero_le h3
    rw [Int.toNat_natCast, num_be, Nat.mod_eq_of_lt ((lt256 m _).1 h4)]
  · rw [put_bad n width hg] at h
    simp at h
theorem put_no (n width : Int) (h : ¬ (put n width).2 = 0) : put n width = ([], 2) := by
  by_cases hg : 1 ≤ width ∧ width ≤ 8 ∧ 0 ≤ n ∧ n < 256 ^ width.toNat
  · exact absurd (by rw [put, if_pos hg]) h
  · exact put_bad n width hg
theorem num_inj (l m : List UInt8) (h : l.length = m.length) (e : num l = num m) : l = m := by
  rw [← be_num l, ← be_num m, h, e]
/-- What Cut answers: the text, what is behind it, and the error's number. -/
def cut (l : List UInt8) : List UInt8 × List UInt8 × Int :=
  if l.length < 4 ∨ l.length - 4 < num (l.take 4) then ([], [], 3) else ((l.drop 4).take (num (l.take 4)), (l.drop 4).drop (num (l.take 4)), 0)
theorem cut_bad (l : List UInt8) (h : l.length < 4 ∨ l.length - 4 < num (l.take 4)) : cut l = ([], [], 3) := if_pos h
theorem cut_good (l : List UInt8) (h1 : 4 ≤ l.length) (h2 : num (l.take 4) ≤ l.length - 4) : cut l = ((l.drop 4).take (num (l.take 4)), (l.drop 4).drop (num (l.take 4)), 0) := if_neg (by omega)
theorem get_four (l : List UInt8) (h : 4 ≤ l.length) : get (l.take 4) = ((num (l.take 4) : Int), 0) ∧ num (l.take 4) < 4294967296 := by
  have hl : (l.take 4).length = 4 := by simp; omega
  have hn := num_lt (l.take 4)
  rw [hl] at hn
  exact ⟨get_good _ (by omega) (by omega) (by omega), by omega⟩
theorem ext_take (l : List UInt8) (n : Nat) (h : n ≤ l.length - 4) : ((⟨l.toArray⟩ : ByteArray).extract 4 l.length).extract 0 n = ⟨((l.drop 4).take n).toArray⟩ := by
  rw [ByteArray.extract_mk, ByteArray.extract_mk, List.drop_zero, Nat.sub_zero, List.take_take, Nat.min_eq_left h]
theorem ext_drop (l : List UInt8) (n : Nat) : ((⟨l.toArray⟩ : ByteArray).extract 4 l.length).extract n (l.length - 4) = ⟨((l.drop 4).drop n).toArray⟩ := by
  rw [ByteArray.extract_mk, ByteArray.extract_mk, List.take_of_length_le (l := l.drop 4) (by simp), List.take_of_length_le (by simp; omega)]
theorem ext_mid (l : List UInt8) (n : Nat) : (⟨l.toArray⟩ : ByteArray).extract 4 (4 + n) = ⟨((l.drop 4).take n).toArray⟩ := by
  rw [ByteArray.extract_mk, Nat.add_sub_cancel_left]
theorem ext_end (l : List UInt8) (n : Nat) : (⟨l.toArray⟩ : ByteArray).extract (4 + n) l.length = ⟨((l.drop 4).drop n).toArray⟩ := by
  rw [ByteArray.extract_mk, List.drop_drop, List.take_of_length_le (by simp)]
/-- What Fill answers: the text with noughts behind it, and the error's number. -/
def fill (s : ByteArray) (n : Int) : ByteArray × Int := if 65536 < n ∨ n < (s.size : Int) then (⟨#[]⟩, 2) else (s ++ ⟨(List.replicate (n - s.size).toNat 0).toArray⟩, 0)
theorem fill_bad (s : ByteArray) (n : Int) (h : 65536 < n ∨ n < (s.size : Int)) : fill s n = (⟨#[]⟩, 2) := if_pos h
theorem fill_good (s : ByteArray) (k : Nat) (h : s.size + k ≤ 65536) : fill s ((s.size + k : Nat) : Int) = (s ++ ⟨(List.replicate k 0).toArray⟩, 0) := by
  rw [fill, if_neg (by omega), show (((s.size + k : Nat) : Int) - s.size).toNat = k from by omega]
theorem be_le (n width : Int) : (put n width).1.length ≤ 8 := by
  by_cases hg : 1 ≤ width ∧ width ≤ 8 ∧ 0 ≤ n ∧ n < 256 ^ width.toNat
  · rw [put, if_pos hg]
    show (be width.toNat n.toNat).length ≤ 8
    rw [be_length]
    omega
  · rw [put_bad _ _ hg]
    simp
/-- The bytes of the first 'i' numbers in their widths. -/
def packTo (ws ls : List Int) : Nat → List UInt8
  | 0 => []
  | i + 1 => packTo ws ls i ++ (put (ls.getD i 0) (ws.getD i 0)).1
/-- The first 'i' numbers have room in their widths. -/
def okTo (ws ls : List Int) (i : Nat) : Prop := ∀ j, j < i → (put (ls.getD j 0) (ws.getD j 0)).2 = 0
/-- What Pack answers: the bytes and the error's number. -/
def pack (ws ls : List Int) : List UInt8 × Int :=
  if ws.length = ls.length ∧ ∀ j, j < ls.length → (put (ls.getD j 0) (ws.getD j 0)).2 = 0 then (packTo ws ls ls.length, 0) else ([], 2)
theorem packTo_length (ws ls : List Int) : ∀ i, (packTo ws ls i).length ≤ 8 * i
  | 0 => by simp [packTo]
  | i + 1 => by
    have := packTo_length ws ls i
    have := be_le (ls.getD i 0) (ws.getD i 0)
    rw [packTo, List.length_append]
    omega
theorem okTo_next {ws ls : List Int} {i : Nat} (h : okTo ws ls i) (hz : (put (ls.getD i 0) (ws.getD i 0)).2 = 0) : okTo ws ls (i + 1) := by
  intro j hj
  rcases Nat.lt_or_ge j i with h' | h'
  · exact h j h'
  · obtain rfl : j = i := by omega
    exact hz
end Go.Proofs.YtoilcieineejiaaGreatDoor
/- Plain mathematics: several numbers, each in its width, taken off a row of bytes. No program is reached here; no conditions. -/
namespace Go.Proofs.YtoilcieineejiaaGreatDoor
/-- How many bytes the first 'i' widths say together. -/
def sumTo (ws : List Int) : Nat → Nat
  | 0 => 0
  | i + 1 => sumTo ws i + (ws.getD i 0).toNat
def widthsTo (ws : List Int) (i : Nat) : Prop := ∀ j, j < i → 1 ≤ ws.getD j 0 ∧ ws.getD j 0 ≤ 8
def piece (ws : List Int) (l : List UInt8) (i : Nat) : List UInt8 := (l.drop (sumTo ws i)).take (ws.getD i 0).toNat
def numsTo (ws : List Int) (l : List UInt8) : Nat → List Int
  | 0 => []
  | i + 1 => numsTo ws l i ++ [(get (piece ws l i)).1]
def gotTo (ws : List Int) (l : List UInt8) (i : Nat) : Prop := ∀ j, j < i → (get (piece ws l j)).2 = 0
/-- What Unpack answers: the numbers and the error's number. -/
def unpack (ws : List Int) (l : List UInt8) : List Int × Int :=
  if ∀ j, j < ws.length → 1 ≤ ws.getD j 0 ∧ ws.getD j 0 ≤ 8 then
    if l.length = sumTo ws ws.length then if ∀ j, j < ws.length → (get (piece ws l j)).2 = 0 then (numsTo ws l ws.length, 0) else ([], 3) else ([], 3)
  else ([], 2)
theorem unpack_width (ws : List Int) (l : List UInt8) (h : ¬ widthsTo ws ws.length) : unpack ws l = ([], 2) := if_neg h
theorem unpack_sum (ws : List Int) (l : List UInt8) (h : widthsTo ws ws.length) (h2 : ¬ l.length = sumTo ws ws.length) : unpack ws l = ([], 3) := by
  have h' : ∀ j, j < ws.length → 1 ≤ ws.getD j 0 ∧ ws.getD j 0 ≤ 8 := h
  rw [unpack, if_pos h', if_neg h2]
theorem unpack_bad (ws : List Int) (l : List UInt8) (h : widthsTo ws ws.length) (h2 : l.length = sumTo ws ws.length) (h3 : ¬ gotTo ws l ws.length) : unpack ws l = ([], 3) := by
  have h' : ∀ j, j < ws.length → 1 ≤ ws.getD j 0 ∧ ws.getD j 0 ≤ 8 := h
  have h3' : ¬ ∀ j, j < ws.length → (get (piece ws l j)).2 = 0 := h3
  rw [unpack, if_pos h', if_pos h2, if_neg h3']
theorem unpack_good (ws : List Int) (l : List UInt8) (h : widthsTo ws ws.length) (h2 : l.length = sumTo ws ws.length) (h3 : gotTo ws l ws.length) : unpack ws l = (numsTo ws l ws.length, 0) := by
  have h' : ∀ j, j < ws.length → 1 ≤ ws.getD j 0 ∧ ws.getD j 0 ≤ 8 := h
  have h3' : ∀ j, j < ws.length → (get (piece ws l j)).2 = 0 := h3
  rw [unpack, if_pos h', if_pos h2, if_pos h3']
theorem numsTo_length (ws : List Int) (l : List UInt8) : ∀ i, (numsTo ws l i).length = i
  | 0 => rfl
  | i + 1 => by rw [numsTo, List.length_append, numsTo_length ws l i]; rfl
theorem sumTo_le (ws : List Int) : ∀ i, widthsTo ws i → sumTo ws i ≤ 8 * i
  | 0, _ => by simp [sumTo]
  | i + 1, h => by
    have h1 := sumTo_le ws i (fun j hj => h j (by omega))
    have h2 := (h i (by omega)).2
    rw [sumTo]
    omega
theorem sumTo_mono (ws : List Int) (i : Nat) : ∀ j, i ≤ j → sumTo ws i ≤ sumTo ws j
  | 0, h => by
    obtain rfl : i = 0 := by omega
    exact Nat.le_refl _
  | j + 1, h => by
    rcases Nat.lt_or_ge j i with h' | h'
    · obtain rfl : i = j + 1 := by omega
      exact Nat.le_refl _
    · have := sumTo_mono ws i j h'
      rw [sumTo]
      omega
theorem widthsTo_next {ws : List Int} {i : Nat} (h : widthsTo ws i) (h1 : 1 ≤ ws.getD i 0 ∧ ws.getD i 0 ≤ 8) : widthsTo ws (i + 1) := by
  intro j hj
  rcases Nat.lt_or_ge j i with h' | h'
  · exact h j h'
  · obtain rfl : j = i := by omega
    exact h1
theorem gotTo_next {ws : List Int} {l : List UInt8} {i : Nat} (h : gotTo ws l i) (h1 : (get (piece ws l i)).2 = 0) : gotTo ws l (i + 1) := by
  intro j hj
  rcases Nat.lt_or_ge j i with h' | h'
  · exact h j h'
  · obtain rfl : j = i := by omega
    exact h1
theorem get_no (l : List UInt8) (h : ¬ (get l).2 = 0) : get l = (0, 3) := by
  by_cases hg : 1 ≤ l.length ∧ l.length ≤ 8 ∧ num l < 9223372036854775808
  · exact absurd (by rw [get, if_pos hg]) h
  · exact get_bad l hg
theorem get_isInt (l : List UInt8) : -9223372036854775808 ≤ (get l).1 ∧ (get l).1 ≤ 9223372036854775807 := by
  by_cases hg : 1 ≤ l.length ∧ l.length ≤ 8 ∧ num l < 9223372036854775808
  · rw [get, if_pos hg]; have := hg.2.2; show _ ≤ ((num l : Nat) : Int) ∧ ((num l : Nat) : Int) ≤ _; omega
  · rw [get_bad l hg]; simp
theorem unpack_short (ws : List Int) (l : List UInt8) : (unpack ws l).1.length ≤ ws.length := by
  unfold unpack
  split
  · split
    · split
      · exact Nat.le_of_eq (numsTo_length ws l _)
      · simp
    · simp
  · simp
end Go.Proofs.YtoilcieineejiaaGreatDoor
