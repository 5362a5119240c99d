/- OctNum OctUnp OctBack GeoN RecN: one behind the other. -/
import Derived.WalkKit
/- Plain mathematics: numbers as rows of bytes, the highest byte first. No program is reached here; no conditions. -/
namespace Go.Proofs.YtopnodkdpehdoaaGreatDoor
/-- 'n' in 'k' bytes, the highest first. -/
def be : Nat → Nat → List UInt8
  | 0, _ => []
  | k + 1, n => UInt8.ofNat (n / 256 ^ k) :: be k n
/-- The number of a row of bytes. -/
def num : List UInt8 → Nat := fun l => l.foldl (fun a b => 256 * a + b.toNat) 0
theorem be_length : ∀ (k n : Nat), (be k n).length = k
  | 0, _ => rfl
  | k + 1, n => by simp [be, be_length k n]
theorem num_append (l m : List UInt8) : num (l ++ m) = 256 ^ m.length * num l + num m := by
  unfold num
  rw [List.foldl_append]
  generalize List.foldl _ 0 l = a
  have h : ∀ (m : List UInt8) (a : Nat), List.foldl (fun a b => 256 * a + b.toNat) a m = 256 ^ m.length * a + List.foldl (fun a b => 256 * a + b.toNat) 0 m := by
    intro m
    induction m with
    | nil => intro a; simp
    | cons x m ih =>
      intro a
      rw [List.foldl_cons, List.foldl_cons, ih, ih (256 * 0 + x.toNat)]
      simp only [List.length_cons, Nat.pow_succ, Nat.mul_add, Nat.mul_zero, Nat.zero_add]
      rw [Nat.mul_assoc (256 ^ m.length) 256 a]
      omega
  exact h m a
theorem num_snoc (l : List UInt8) (b : UInt8) : num (l ++ [b]) = 256 * num l + b.toNat := by
  rw [num_append]; simp [num]
theorem num_cons (b : UInt8) (l : List UInt8) : num (b :: l) = 256 ^ l.length * b.toNat + num l := by
  have := num_append [b] l
  simpa [num] using this
theorem num_lt (l : List UInt8) : num l < 256 ^ l.length := by
  induction l with
  | nil => simp [num]
  | cons b l ih =>
    rw [num_cons, List.length_cons, Nat.pow_succ]
    have hb : b.toNat ≤ 255 := by have := b.toNat_lt; omega
    have : 256 ^ l.length * b.toNat ≤ 256 ^ l.length * 255 := Nat.mul_le_mul_left _ hb
    omega
theorem num_be : ∀ (k n : Nat), num (be k n) = n % 256 ^ k
  | 0, n => by simp [be, num, Nat.mod_one]
  | k + 1, n => by
    rw [be, num_cons, be_length, num_be k n, UInt8.toNat_ofNat']
    have h : n % 256 ^ (k + 1) = n % 256 ^ k + 256 ^ k * (n / 256 ^ k % 256) := by
      rw [Nat.pow_succ, Nat.mod_mul]
    rw [h]
    simp only [Nat.reducePow]
    omega
theorem num_take_le (l : List UInt8) (k : Nat) : num (l.take k) ≤ num l := by
  have h := num_append (l.take k) (l.drop k)
  rw [List.take_append_drop] at h
  have hp : 0 < 256 ^ (l.drop k).length := Nat.pow_pos (by omega)
  have := Nat.le_mul_of_pos_left (num (l.take k)) hp
  omega
theorem num_head (b : UInt8) (l : List UInt8) (h : l.length = 7) : num (b :: l) < 9223372036854775808 ↔ b.toNat < 128 := by
  have h1 := num_lt l
  rw [num_cons, h] at *
  simp only [Nat.reducePow] at *
  omega
theorem take_snoc (s : ByteArray) (k : Nat) (h : k < s.size) : s.data.toList.take (k + 1) = s.data.toList.take k ++ [s[k]] := by
  rw [List.take_succ_eq_append_getElem (by simpa using h)]; rfl
theorem num_eight (s : ByteArray) (h : s.size = 8) : num s.data.toList < 9223372036854775808 ↔ (s[0]'(by omega)).toNat < 128 := by
  have hl : s.data.toList.length = 8 := by simpa using h
  have e : s.data.toList = s[0]'(by omega) :: s.data.toList.drop 1 := by
    conv => lhs; rw [← List.take_append_drop 1 s.data.toList, take_snoc s 0 (by omega)]
    rfl
  rw [e]
  exact num_head _ _ (by simp; omega)
theorem be_mod : ∀ (k n m : Nat), k ≤ m → be k (n % 256 ^ m) = be k n
  | 0, _, _, _ => rfl
  | k + 1, n, m, h => by
    rw [be, be, be_mod k n m (by omega)]
    congr 1
    apply UInt8.toNat_inj.1
    rw [UInt8.toNat_ofNat', UInt8.toNat_ofNat']
    obtain ⟨d, rfl⟩ : ∃ d, m = k + (d + 1) := ⟨m - k - 1, by omega⟩
    rw [Nat.pow_add, Nat.mod_mul_right_div_self, Nat.pow_succ, Nat.mul_comm, Nat.mod_mul_right_mod]
theorem be_four (n : Nat) : be 4 ((n : Int) % 4294967296).toNat = be 4 n := by
  have e : ((n : Int) % 4294967296).toNat = n % 256 ^ 4 := by omega
  rw [e, be_mod 4 n 4 (Nat.le_refl _)]
/-- A text behind its length in four bytes. -/
def text (s : ByteArray) : ByteArray := ⟨(be 4 s.size).toArray⟩ ++ s
theorem be_num : ∀ (l : List UInt8), be l.length (num l) = l
  | [] => rfl
  | b :: l => by
    have hl := num_lt l
    have hp : 0 < 256 ^ l.length := Nat.pow_pos (by omega)
    rw [List.length_cons, be, num_cons]
    have h1 : (256 ^ l.length * b.toNat + num l) / 256 ^ l.length = b.toNat := by
      rw [Nat.mul_add_div hp, Nat.div_eq_of_lt hl, Nat.add_zero]
    rw [h1]
    have h2 : ∀ (k a m : Nat), be k (256 ^ k * a + m) = be k m := by
      intro k
      have h3 : ∀ (j k a m : Nat), j ≤ k → be j (256 ^ k * a + m) = be j m := by
        intro j
        induction j with
        | zero => intros; rfl
        | succ j ih =>
          intro k a m hj
          rw [be, be, ih k a m (by omega)]
          congr 1
          obtain ⟨d, rfl⟩ : ∃ d, k = j + 1 + d := ⟨k - (j + 1), by omega⟩
          have : 256 ^ (j + 1 + d) * a + m = 256 ^ j * (256 * (256 ^ d * a)) + m := by
            rw [Nat.pow_add, Nat.pow_succ]; simp only [Nat.mul_assoc]
          rw [this, Nat.mul_add_div (Nat.pow_pos (by omega))]
          apply UInt8.toNat_inj.1
          rw [UInt8.toNat_ofNat', UInt8.toNat_ofNat']
          simp only [Nat.reducePow]
          omega
      intro a m
      exact h3 k k a m (Nat.le_refl _)
    rw [h2, be_num l]
    simp
theorem lt256 (n k : Nat) : (n : Int) < 256 ^ k ↔ n < 256 ^ k := by
  rw [show (256 : Int) ^ k = ((256 ^ k : Nat) : Int) from (Int.natCast_pow 256 k).symm]
  exact Int.ofNat_lt
/-- What Put answers: the bytes and the error's number. -/
def put (n width : Int) : List UInt8 × Int := if 1 ≤ width ∧ width ≤ 8 ∧ 0 ≤ n ∧ n < 256 ^ width.toNat then (be width.toNat n.toNat, 0) else ([], 2)
theorem put_good (n width : Int) (h1 : 1 ≤ width) (h2 : width ≤ 8) (h3 : 0 ≤ n) (h4 : n < 256 ^ width.toNat) : put n width = (be width.toNat n.toNat, 0) := if_pos ⟨h1, h2, h3, h4⟩
theorem put_bad (n width : Int) (h : ¬ (1 ≤ width ∧ width ≤ 8 ∧ 0 ≤ n ∧ n < 256 ^ width.toNat)) : put n width = ([], 2) := if_neg h
theorem or8 (n b : Nat) (hn : n < 72057594037927936) (hb : b < 256) : bits .or .u64 ((n : Int) * 256) (IntKind.u64.wrap (b : Int)) = ((256 * n + b : Nat) : Int) := by
  have e : IntKind.u64.wrap (b : Int) = (b : Int) := by simp [IntKind.wrap, IntKind.bits, IntKind.signed]; omega
  have e2 : (n : Int) * 256 = ((2 ^ 8 * n : Nat) : Int) := by omega
  rw [e, e2, u64_or_nat _ _ (by omega) (by omega), ← Nat.two_pow_add_eq_or_of_lt (by omega)]
/-- What Get answers: the number and the error's number. -/
def get (l : List UInt8) : Int × Int := if 1 ≤ l.length ∧ l.length ≤ 8 ∧ num l < 9223372036854775808 then (num l, 0) else (0, 3)
theorem get_good (l : List UInt8) (h1 : 1 ≤ l.length) (h2 : l.length ≤ 8) (h3 : num l < 9223372036854775808) : get l = ((num l : Int), 0) := if_pos ⟨h1, h2, h3⟩
theorem get_bad (l : List UInt8) (h : ¬ (1 ≤ l.length ∧ l.length ≤ 8 ∧ num l < 9223372036854775808)) : get l = (0, 3) := if_neg h
theorem less_num : ∀ (l m : List UInt8), l.length = m.length → Op.bytesLess l m = decide (num l < num m)
  | [], [], _ => by simp [Op.bytesLess, num]
  | [], _ :: _, h => by simp at h
  | _ :: _, [], h => by simp at h
  | a :: l, b :: m, h => by
    have h' : l.length = m.length := by simpa using h
    have h1 := num_lt l
    have h2 := num_lt m
    rw [Op.bytesLess, less_num l m h', num_cons, num_cons, ← h']
    rw [← h'] at h2
    generalize 256 ^ l.length = p at *
    rcases Nat.lt_trichotomy a.toNat b.toNat with hlt | heq | hgt
    · have hm : p * (a.toNat + 1) ≤ p * b.toNat := Nat.mul_le_mul_left _ hlt
      rw [Nat.mul_add] at hm
      have hd : a < b := UInt8.lt_iff_toNat_lt.2 hlt
      have : p * a.toNat + num l < p * b.toNat + num m := by omega
      simp [hd, this]
    · obtain rfl : a = b := UInt8.toNat_inj.1 heq
      simp
    · have hm : p * (b.toNat + 1) ≤ p * a.toNat := Nat.mul_le_mul_left _ hgt
      rw [Nat.mul_add] at hm
      have hd : ¬ a < b := fun hh => by have := UInt8.lt_iff_toNat_lt.1 hh; omega
      have hn : ¬ a = b := fun hh => by rw [hh] at hgt; omega
      have : ¬ p * a.toNat + num l < p * b.toNat + num m := by omega
      simp [hd, this, hn]
/-- What is put is as many bytes as the width, and tells the number. -/
theorem put_ok (n width : Int) (h : (put n width).2 = 0) : ∃ l, put n width = (l, 0) ∧ (l.length : Int) = width ∧ (num l : Int) = n := by
  by_cases hg : 1 ≤ width ∧ width ≤ 8 ∧ 0 ≤ n ∧ n < 256 ^ width.toNat
  · refine ⟨be width.toNat n.toNat, if_pos hg, by rw [be_length]; omega, ?_⟩
    obtain ⟨h1, h2, h3, h4⟩ := hg
    obtain ⟨m, rfl⟩ := Int.eq_ofNat_of_zero_le h3
    rw [Int.toNat_natCast, num_be, Nat.mod_eq_of_lt ((lt256 m _).1 h4)]
  · rw [put_bad n width hg] at h
    simp at h
theorem put_no (n width : Int) (h : ¬ (put n width).2 = 0) : put n width = ([], 2) := by
  by_cases hg : 1 ≤ width ∧ width ≤ 8 ∧ 0 ≤ n ∧ n < 256 ^ width.toNat
  · exact absurd (by rw [put, if_pos hg]) h
  · exact put_bad n width hg
theorem num_inj (l m : List UInt8) (h : l.length = m.length) (e : num l = num m) : l = m := by
  rw [← be_num l, ← be_num m, h, e]
/-- What Cut answers: the text, what is behind it, and the error's number. -/
def cut (l : List UInt8) : List UInt8 × List UInt8 × Int :=
  if l.length < 4 ∨ l.length - 4 < num (l.take 4) then ([], [], 3) else ((l.drop 4).take (num (l.take 4)), (l.drop 4).drop (num (l.take 4)), 0)
theorem cut_bad (l : List UInt8) (h : l.length < 4 ∨ l.length - 4 < num (l.take 4)) : cut l = ([], [], 3) := if_pos h
theorem cut_good (l : List UInt8) (h1 : 4 ≤ l.length) (h2 : num (l.take 4) ≤ l.length - 4) : cut l = ((l.drop 4).take (num (l.take 4)), (l.drop 4).drop (num (l.take 4)), 0) := if_neg (by omega)
theorem get_four (l : List UInt8) (h : 4 ≤ l.length) : get (l.take 4) = ((num (l.take 4) : Int), 0) ∧ num (l.take 4) < 4294967296 := by
  have hl : (l.take 4).length = 4 := by simp; omega
  have hn := num_lt (l.take 4)
  rw [hl] at hn
  exact ⟨get_good _ (by omega) (by omega) (by omega), by omega⟩
theorem ext_take (l : List UInt8) (n : Nat) (h : n ≤ l.length - 4) : ((⟨l.toArray⟩ : ByteArray).extract 4 l.length).extract 0 n = ⟨((l.drop 4).take n).toArray⟩ := by
  rw [ByteArray.extract_mk, ByteArray.extract_mk, List.drop_zero, Nat.sub_zero, List.take_take, Nat.min_eq_left h]
theorem ext_drop (l : List UInt8) (n : Nat) : ((⟨l.toArray⟩ : ByteArray).extract 4 l.length).extract n (l.length - 4) = ⟨((l.drop 4).drop n).toArray⟩ := by
  rw [ByteArray.extract_mk, ByteArray.extract_mk, List.take_of_length_le (l := l.drop 4) (by simp), List.take_of_length_le (by simp; omega)]
theorem ext_mid (l : List UInt8) (n : Nat) : (⟨l.toArray⟩ : ByteArray).extract 4 (4 + n) = ⟨((l.drop 4).take n).toArray⟩ := by
  rw [ByteArray.extract_mk, Nat.add_sub_cancel_left]
theorem ext_end (l : List UInt8) (n : Nat) : (⟨l.toArray⟩ : ByteArray).extract (4 + n) l.length = ⟨((l.drop 4).drop n).toArray⟩ := by
  rw [ByteArray.extract_mk, List.drop_drop, List.take_of_length_le (by simp)]
/-- What Fill answers: the text with noughts behind it, and the error's number. -/
def fill (s : ByteArray) (n : Int) : ByteArray × Int := if 65536 < n ∨ n < (s.size : Int) then (⟨#[]⟩, 2) else (s ++ ⟨(List.replicate (n - s.size).toNat 0).toArray⟩, 0)
theorem fill_bad (s : ByteArray) (n : Int) (h : 65536 < n ∨ n < (s.size : Int)) : fill s n = (⟨#[]⟩, 2) := if_pos h
theorem fill_good (s : ByteArray) (k : Nat) (h : s.size + k ≤ 65536) : fill s ((s.size + k : Nat) : Int) = (s ++ ⟨(List.replicate k 0).toArray⟩, 0) := by
  rw [fill, if_neg (by omega), show (((s.size + k : Nat) : Int) - s.size).toNat = k from by omega]
theorem be_le (n width : Int) : (put n width).1.length ≤ 8 := by
  by_cases hg : 1 ≤ width ∧ width ≤ 8 ∧ 0 ≤ n ∧ n < 256 ^ width.toNat
  · rw [put, if_pos hg]
    show (be width.toNat n.toNat).length ≤ 8
    rw [be_length]
    omega
  · rw [put_bad _ _ hg]
    simp
/-- The bytes of the first 'i' numbers in their widths. -/
def packTo (ws ls : List Int) : Nat → List UInt8
  | 0 => []
  | i + 1 => packTo ws ls i ++ (put (ls.getD i 0) (ws.getD i 0)).1
/-- The first 'i' numbers have room in their widths. -/
def okTo (ws ls : List Int) (i : Nat) : Prop := ∀ j, j < i → (put (ls.getD j 0) (ws.getD j 0)).2 = 0
/-- What Pack answers: the bytes and the error's number. -/
def pack (ws ls : List Int) : List UInt8 × Int :=
  if ws.length = ls.length ∧ ∀ j, j < ls.length → (put (ls.getD j 0) (ws.getD j 0)).2 = 0 then (packTo ws ls ls.length, 0) else ([], 2)
theorem packTo_length (ws ls : List Int) : ∀ i, (packTo ws ls i).length ≤ 8 * i
  | 0 => by simp [packTo]
  | i + 1 => by
    have := packTo_length ws ls i
    have := be_le (ls.getD i 0) (ws.getD i 0)
    rw [packTo, List.length_append]
    omega
theorem okTo_next {ws ls : List Int} {i : Nat} (h : okTo ws ls i) (hz : (put (ls.getD i 0) (ws.getD i 0)).2 = 0) : okTo ws ls (i + 1) := by
  intro j hj
  rcases Nat.lt_or_ge j i with h' | h'
  · exact h j h'
  · obtain rfl : j = i := by omega
    exact hz
end Go.Proofs.YtopnodkdpehdoaaGreatDoor
/- Plain mathematics: several numbers, each in its width, taken off a row of bytes. No program is reached here; no conditions. -/
namespace Go.Proofs.YtopnodkdpehdoaaGreatDoor
/-- How many bytes the first 'i' widths say together. -/
def sumTo (ws : List Int) : Nat → Nat
  | 0 => 0
  | i + 1 => sumTo ws i + (ws.getD i 0).toNat
def widthsTo (ws : List Int) (i : Nat) : Prop := ∀ j, j < i → 1 ≤ ws.getD j 0 ∧ ws.getD j 0 ≤ 8
def piece (ws : List Int) (l : List UInt8) (i : Nat) : List UInt8 := (l.drop (sumTo ws i)).take (ws.getD i 0).toNat
def numsTo (ws : List Int) (l : List UInt8) : Nat → List Int
  | 0 => []
  | i + 1 => numsTo ws l i ++ [(get (piece ws l i)).1]
def gotTo (ws : List Int) (l : List UInt8) (i : Nat) : Prop := ∀ j, j < i → (get (piece ws l j)).2 = 0
/-- What Unpack answers: the numbers and the error's number. -/
def unpack (ws : List Int) (l : List UInt8) : List Int × Int :=
  if ∀ j, j < ws.length → 1 ≤ ws.getD j 0 ∧ ws.getD j 0 ≤ 8 then
    if l.length = sumTo ws ws.length then if ∀ j, j < ws.length → (get (piece ws l j)).2 = 0 then (numsTo ws l ws.length, 0) else ([], 3) else ([], 3)
  else ([], 2)
theorem unpack_width (ws : List Int) (l : List UInt8) (h : ¬ widthsTo ws ws.length) : unpack ws l = ([], 2) := if_neg h
theorem unpack_sum (ws : List Int) (l : List UInt8) (h : widthsTo ws ws.length) (h2 : ¬ l.length = sumTo ws ws.length) : unpack ws l = ([], 3) := by
  have h' : ∀ j, j < ws.length → 1 ≤ ws.getD j 0 ∧ ws.getD j 0 ≤ 8 := h
  rw [unpack, if_pos h', if_neg h2]
theorem unpack_bad (ws : List Int) (l : List UInt8) (h : widthsTo ws ws.length) (h2 : l.length = sumTo ws ws.length) (h3 : ¬ gotTo ws l ws.length) : unpack ws l = ([], 3) := by
  have h' : ∀ j, j < ws.length → 1 ≤ ws.getD j 0 ∧ ws.getD j 0 ≤ 8 := h
  have h3' : ¬ ∀ j, j < ws.length → (get (piece ws l j)).2 = 0 := h3
  rw [unpack, if_pos h', if_pos h2, if_neg h3']
theorem unpack_good (ws : List Int) (l : List UInt8) (h : widthsTo ws ws.length) (h2 : l.length = sumTo ws ws.length) (h3 : gotTo ws l ws.length) : unpack ws l = (numsTo ws l ws.length, 0) := by
  have h' : ∀ j, j < ws.length → 1 ≤ ws.getD j 0 ∧ ws.getD j 0 ≤ 8 := h
  have h3' : ∀ j, j < ws.length → (get (piece ws l j)).2 = 0 := h3
  rw [unpack, if_pos h', if_pos h2, if_pos h3']
theorem numsTo_length (ws : List Int) (l : List UInt8) : ∀ i, (numsTo ws l i).length = i
  | 0 => rfl
  | i + 1 => by rw [numsTo, List.length_append, numsTo_length ws l i]; rfl
theorem sumTo_le (ws : List Int) : ∀ i, widthsTo ws i → sumTo ws i ≤ 8 * i
  | 0, _ => by simp [sumTo]
  | i + 1, h => by
    have h1 := sumTo_le ws i (fun j hj => h j (by omega))
    have h2 := (h i (by omega)).2
    rw [sumTo]
    omega
theorem sumTo_mono (ws : List Int) (i : Nat) : ∀ j, i ≤ j → sumTo ws i ≤ sumTo ws j
  | 0, h => by
    obtain rfl : i = 0 := by omega
    exact Nat.le_refl _
  | j + 1, h => by
    rcases Nat.lt_or_ge j i with h' | h'
    · obtain rfl : i = j + 1 := by omega
      exact Nat.le_refl _
    · have := sumTo_mono ws i j h'
      rw [sumTo]
      omega
theorem widthsTo_next {ws : List Int} {i : Nat} (h : widthsTo ws i) (h1 : 1 ≤ ws.getD i 0 ∧ ws.getD i 0 ≤ 8) : widthsTo ws (i + 1) := by
  intro j hj
  rcases Nat.lt_or_ge j i with h' | h'
  · exact h j h'
  · obtain rfl : j = i := by omega
    exact h1
theorem gotTo_next {ws : List Int} {l : List UInt8} {i : Nat} (h : gotTo ws l i) (h1 : (get (piece ws l i)).2 = 0) : gotTo ws l (i + 1) := by
  intro j hj
  rcases Nat.lt_or_ge j i with h' | h'
  · exact h j h'
  · obtain rfl : j = i := by omega
    exact h1
theorem get_no (l : List UInt8) (h : ¬ (get l).2 = 0) : get l = (0, 3) := by
  by_cases hg : 1 ≤ l.length ∧ l.length ≤ 8 ∧ num l < 9223372036854775808
  · exact absurd (by rw [get, if_pos hg]) h
  · exact get_bad l hg
theorem get_isInt (l : List UInt8) : -9223372036854775808 ≤ (get l).1 ∧ (get l).1 ≤ 9223372036854775807 := by
  by_cases hg : 1 ≤ l.length ∧ l.length ≤ 8 ∧ num l < 9223372036854775808
  · rw [get, if_pos hg]; have := hg.2.2; show _ ≤ ((num l : Nat) : Int) ∧ ((num l : Nat) : Int) ≤ _; omega
  · rw [get_bad l hg]; simp
theorem unpack_short (ws : List Int) (l : List UInt8) : (unpack ws l).1.length ≤ ws.length := by
  unfold unpack
  split
  · split
    · split
      · exact Nat.le_of_eq (numsTo_length ws l _)
      · simp
    · simp
  · simp
end Go.Proofs.YtopnodkdpehdoaaGreatDoor
/- Plain mathematics: what was put is got, what was packed is unpacked, what has its length ahead is cut off again. No program is reached here. -/
namespace Go.Proofs.YtopnodkdpehdoaaGreatDoor
theorem put_facts (n width : Int) (hn : n ≤ 9223372036854775807) (h : (put n width).2 = 0) : 1 ≤ width ∧ width ≤ 8 ∧ (put n width).1.length = width.toNat ∧ get (put n width).1 = (n, 0) := by
  by_cases hg : 1 ≤ width ∧ width ≤ 8 ∧ 0 ≤ n ∧ n < 256 ^ width.toNat
  · obtain ⟨l, hl, h1, h2⟩ := put_ok n width h
    rw [hl]
    have hl1 : l.length = width.toNat := by omega
    refine ⟨hg.1, hg.2.1, hl1, ?_⟩
    rw [show ((l, (0 : Int)) : List UInt8 × Int).1 = l from rfl, get_good l (by omega) (by omega) (by omega), h2]
  · rw [put_bad n width hg] at h
    simp at h
theorem put_get (l : List UInt8) (h : (get l).2 = 0) : put (get l).1 (l.length : Int) = (l, 0) := by
  by_cases hg : 1 ≤ l.length ∧ l.length ≤ 8 ∧ num l < 9223372036854775808
  · obtain ⟨h1, h2, h3⟩ := hg
    rw [get_good l h1 h2 h3]
    show put (num l : Int) (l.length : Int) = _
    rw [put_good _ _ (by omega) (by omega) (by omega) (by rw [Int.toNat_natCast]; exact (lt256 _ _).2 (num_lt l)), Int.toNat_natCast, Int.toNat_natCast, be_num]
  · rw [get_bad l hg] at h
    simp at h
theorem cut_text (l r : List UInt8) (h : l.length < 4294967296) : cut (be 4 l.length ++ l ++ r) = (l, r, 0) := by
  have h4 := be_length 4 l.length
  have e1 : (be 4 l.length ++ l ++ r).take 4 = be 4 l.length := by
    rw [List.append_assoc, List.take_append_of_le_length (by omega), List.take_of_length_le (by omega)]
  have e2 : (be 4 l.length ++ l ++ r).drop 4 = l ++ r := by
    rw [List.append_assoc, List.drop_append_of_le_length (by omega), List.drop_of_length_le (by omega), List.nil_append]
  have e3 : num (be 4 l.length) = l.length := by
    rw [num_be, Nat.mod_eq_of_lt (by simpa using h)]
  rw [cut_good _ (by simp; omega) (by rw [e1, e3]; simp; omega), e1, e2, e3]
  simp
theorem packTo_split (ws ls : List Int) (i : Nat) : ∀ n, i < n → ∃ t, packTo ws ls n = packTo ws ls i ++ ((put (ls.getD i 0) (ws.getD i 0)).1 ++ t)
  | 0, h => absurd h (by omega)
  | n + 1, h => by
    rcases Nat.lt_or_ge i n with h' | h'
    · obtain ⟨t, ht⟩ := packTo_split ws ls i n h'
      exact ⟨t ++ (put (ls.getD n 0) (ws.getD n 0)).1, by rw [packTo, ht]; simp [List.append_assoc]⟩
    · obtain rfl : i = n := by omega
      exact ⟨[], by rw [packTo, List.append_nil]⟩
theorem packTo_sum (ws ls : List Int) (hi : ∀ x ∈ ls, x ≤ 9223372036854775807) : ∀ n, okTo ws ls n → (packTo ws ls n).length = sumTo ws n
  | 0, _ => rfl
  | n + 1, h => by
    have h1 := packTo_sum ws ls hi n (fun j hj => h j (by omega))
    have hx : ls.getD n 0 ≤ 9223372036854775807 := by
      rw [List.getD]
      cases hx : ls[n]? with
      | none => simp
      | some x => exact hi x (List.mem_of_getElem? hx)
    have h2 := put_facts _ _ hx (h n (by omega))
    rw [packTo, List.length_append, h1, h2.2.2.1, sumTo]
theorem unpack_pack (ws ls : List Int) (hi : ∀ x ∈ ls, x ≤ 9223372036854775807) (hl : ws.length = ls.length) (h : okTo ws ls ls.length) : unpack ws (packTo ws ls ls.length) = (ls, 0) := by
  have hx : ∀ n, ls.getD n 0 ≤ 9223372036854775807 := by
    intro n
    rw [List.getD]
    cases hx : ls[n]? with
    | none => simp
    | some x => exact hi x (List.mem_of_getElem? hx)
  have hp : ∀ i, i < ls.length → piece ws (packTo ws ls ls.length) i = (put (ls.getD i 0) (ws.getD i 0)).1 := by
    intro i hii
    obtain ⟨t, ht⟩ := packTo_split ws ls i ls.length hii
    have h1 := packTo_sum ws ls hi i (fun j hj => h j (by omega))
    have h2 := (put_facts _ _ (hx i) (h i hii)).2.2.1
    rw [piece, ht, List.drop_append_of_le_length (by omega), List.drop_of_length_le (by omega), List.nil_append, List.take_append_of_le_length (by omega), List.take_of_length_le (by omega)]
  have hg : ∀ i, i < ls.length → get (piece ws (packTo ws ls ls.length) i) = (ls.getD i 0, 0) := by
    intro i hii
    rw [hp i hii]
    exact (put_facts _ _ (hx i) (h i hii)).2.2.2
  have hn : ∀ i, i ≤ ls.length → numsTo ws (packTo ws ls ls.length) i = ls.take i := by
    intro i
    induction i with
    | zero => intro _; rfl
    | succ i ih =>
      intro hii
      rw [numsTo, ih (by omega), hg i (by omega), List.take_succ_eq_append_getElem (by omega)]
      simp [List.getD, show i < ls.length from by omega]
  rw [unpack_good ws _ (by rw [hl]; intro j hj; have := put_facts _ _ (hx j) (h j hj); exact ⟨this.1, this.2.1⟩) (by rw [hl]; exact packTo_sum ws ls hi _ h)
    (by rw [hl]; intro j hj; rw [hg j hj]), hl, hn _ (Nat.le_refl _), List.take_length]
theorem pack_ok (ws ls : List Int) (h : (pack ws ls).2 = 0) : ws.length = ls.length ∧ okTo ws ls ls.length ∧ pack ws ls = (packTo ws ls ls.length, 0) := by
  by_cases hg : ws.length = ls.length ∧ ∀ j, j < ls.length → (put (ls.getD j 0) (ws.getD j 0)).2 = 0
  · exact ⟨hg.1, hg.2, by rw [pack, if_pos hg]⟩
  · rw [pack, if_neg hg] at h
    simp at h
end Go.Proofs.YtopnodkdpehdoaaGreatDoor
/- Plain mathematics of geom: whether three numbers are a shape's, what is nearest to them, how many blocks are for data and may be taken, the bytes. No program is reached here; no conditions. -/
namespace Go.Proofs.YtopnodkdpehdoaaGreatDoor.GeoN
/-- Three numbers of a shape that may be. -/
def right (b l f : Int) : Prop := 8 ≤ b ∧ b ≤ 1024 ∧ 1 ≤ l ∧ l ≤ 4096 ∧ 0 ≤ f ∧ f ≤ 4294967295
instance (b l f : Int) : Decidable (right b l f) := inferInstanceAs (Decidable (_ ∧ _))
def lo : Nat → Int
  | 0 => 8
  | 1 => 1
  | _ => 0
def hi : Nat → Int
  | 0 => 1024
  | 1 => 4096
  | _ => 4294967295
theorem ite_max (x y : Int) : (if y > x then y else x) = max x y := by omega
theorem ite_min (x y : Int) : (if y < x then y else x) = min x y := by omega
def near (j : Nat) (x : Int) : Int := min (max x (lo j)) (hi j)
/-- The number in place 'i' behind 'j' rounds. -/
def at_ (X : Nat → Int) (j i : Nat) : Int := if i < j then near i (X i) else X i
def three (b l f : Int) : Nat → Int
  | 0 => b
  | 1 => l
  | _ => f
theorem near_right (b l f : Int) : (decide (b = near 0 b) && (decide (l = near 1 l) && decide (f = near 2 f))) = decide (right b l f) := by
  rw [Bool.eq_iff_iff]
  simp only [Bool.and_eq_true, decide_eq_true_iff]
  unfold right near
  rw [show lo 0 = 8 from rfl, show lo 1 = 1 from rfl, show lo 2 = 0 from rfl, show hi 0 = 1024 from rfl, show hi 1 = 4096 from rfl, show hi 2 = 4294967295 from rfl]
  constructor
  · rintro ⟨h1, h2, h3⟩; omega
  · rintro ⟨h1, h2, h3, h4, h5, h6⟩; exact ⟨by omega, by omega, by omega⟩
/-- What Check answers. -/
def check (b l f : Int) : Int := if right b l f then 0 else 2
theorem check_yes {b l f : Int} (h : right b l f) : check b l f = 0 := if_pos h
theorem check_no {b l f : Int} (h : ¬ right b l f) : check b l f = 2 := if_neg h
/-- How many blocks are for data. -/
def data (b l f : Int) : Int := if right b l f then b - 4 else 0
theorem data_yes {b l f : Int} (h : right b l f) : data b l f = b - 4 := if_pos h
theorem data_no {b l f : Int} (h : ¬ right b l f) : data b l f = 0 := if_neg h
theorem data_le (b l f : Int) : 0 ≤ data b l f ∧ data b l f ≤ 1020 := by
  unfold data
  split
  · rename_i h; unfold right at h; omega
  · omega
/-- How many may be taken. -/
def room (b l f used : Int) : Int := if right b l f ∧ 0 ≤ used ∧ used < b - 5 then b - 5 - used else 0
theorem room_neg {b l f used : Int} (h : used < 0) : room b l f used = 0 := if_neg (fun hh => by omega)
theorem room_max {b l f used : Int} (h : 0 ≤ used) : max (data b l f - 1 - used) 0 = room b l f used := by
  unfold room data
  by_cases hr : right b l f
  · rw [if_pos hr]
    by_cases hu : used < b - 5
    · rw [if_pos ⟨hr, h, hu⟩]; omega
    · rw [if_neg (fun hh => hu hh.2.2)]; omega
  · rw [if_neg hr, if_neg (fun hh => hr hh.1)]; omega
theorem room_yes {b l f used : Int} (h : right b l f) (h0 : 0 ≤ used) (h1 : used < b - 5) : room b l f used = b - 5 - used := if_pos ⟨h, h0, h1⟩
theorem room_no {b l f used : Int} (h : ¬ (right b l f ∧ 0 ≤ used ∧ used < b - 5)) : room b l f used = 0 := if_neg h
/-- What Place answers. -/
def place (b l f i : Int) : Int × Int := if i < 0 ∨ data b l f ≤ i then (0, 4) else (4 + i, 0)
theorem place_no {b l f i : Int} (h : i < 0 ∨ data b l f ≤ i) : place b l f i = (0, 4) := if_pos h
theorem place_yes {b l f i : Int} (h0 : 0 ≤ i) (h1 : i < data b l f) : place b l f i = (4 + i, 0) := if_neg (by omega)
/-- Of two places, which one has it. -/
def turn (n : Int) : Int := max n 0 % 2
/-- The bytes of a shape that may be. -/
def bytes3 (b l f : Int) : List UInt8 := be 4 b.toNat ++ be 4 l.toNat ++ be 4 f.toNat
theorem bytes_len (b l f : Int) : (bytes3 b l f).length = 12 := by simp [bytes3, be_length]
theorem put4 {n : Int} (h0 : 0 ≤ n) (h1 : n ≤ 4294967295) : put n 4 = (be 4 n.toNat, 0) := put_good n 4 (by omega) (by omega) h0 (by simpa using (show n < 4294967296 by omega))
/-- What Pack answers of a shape's numbers. -/
theorem pack_right {b l f : Int} (h : right b l f) : pack [4, 4, 4] [b, l, f] = (bytes3 b l f, 0) := by
  unfold right at h
  have p0 := put4 (n := b) (by omega) (by omega)
  have p1 := put4 (n := l) (by omega) (by omega)
  have p2 := put4 (n := f) (by omega) (by omega)
  unfold pack
  rw [if_pos ⟨rfl, fun j hj => by
    match j, hj with
    | 0, _ => simpa using congrArg Prod.snd p0
    | 1, _ => simpa using congrArg Prod.snd p1
    | 2, _ => simpa using congrArg Prod.snd p2⟩]
  simp [packTo, p0, p1, p2, bytes3]
/-- The three numbers of twelve bytes. -/
def nb (s : List UInt8) : Int := num (s.take 4)
def nl (s : List UInt8) : Int := num ((s.drop 4).take 4)
def nf (s : List UInt8) : Int := num (s.drop 8)
theorem n_bytes {b l f : Int} (h : right b l f) : nb (bytes3 b l f) = b ∧ nl (bytes3 b l f) = l ∧ nf (bytes3 b l f) = f := by
  unfold right at h
  have e0 : (bytes3 b l f).take 4 = be 4 b.toNat := by unfold bytes3; rw [List.append_assoc, List.take_left' (be_length _ _)]
  have e1 : ((bytes3 b l f).drop 4).take 4 = be 4 l.toNat := by unfold bytes3; rw [List.append_assoc, List.drop_left' (be_length _ _), List.take_left' (be_length _ _)]
  have e2 : (bytes3 b l f).drop 8 = be 4 f.toNat := by unfold bytes3; rw [List.drop_left' (by simp [be_length])]
  unfold nb nl nf
  rw [e0, e1, e2, num_be, num_be, num_be]
  simp only [Nat.reducePow]
  omega
theorem bytes_n {s : List UInt8} (h : s.length = 12) : bytes3 (nb s) (nl s) (nf s) = s := by
  have e0 := be_num (s.take 4)
  have e1 := be_num ((s.drop 4).take 4)
  have e2 := be_num (s.drop 8)
  rw [show (s.take 4).length = 4 from by simp; omega] at e0
  rw [show ((s.drop 4).take 4).length = 4 from by simp; omega] at e1
  rw [show (s.drop 8).length = 4 from by simp; omega] at e2
  unfold bytes3 nb nl nf
  rw [Int.toNat_natCast, Int.toNat_natCast, Int.toNat_natCast, e0, e1, e2]
  have h1 : s.drop 8 = (s.drop 4).drop 4 := by rw [List.drop_drop]
  rw [h1, List.append_assoc, List.take_append_drop, List.take_append_drop]
theorem n_lt (s : List UInt8) (h : s.length = 12) : 0 ≤ nb s ∧ nb s ≤ 4294967295 ∧ 0 ≤ nl s ∧ nl s ≤ 4294967295 ∧ 0 ≤ nf s ∧ nf s ≤ 4294967295 := by
  have h0 := num_lt (s.take 4)
  have h1 := num_lt ((s.drop 4).take 4)
  have h2 := num_lt (s.drop 8)
  rw [show (s.take 4).length = 4 from by simp; omega] at h0
  rw [show ((s.drop 4).take 4).length = 4 from by simp; omega] at h1
  rw [show (s.drop 8).length = 4 from by simp; omega] at h2
  unfold nb nl nf
  simp only [Nat.reducePow] at h0 h1 h2
  omega
end Go.Proofs.YtopnodkdpehdoaaGreatDoor.GeoN
/- Plain mathematics: records, their bytes, and the records of bytes. No program is reached here; no conditions but those that each lemma names. -/
namespace Go.Proofs.YtopnodkdpehdoaaGreatDoor.RecN
/-- A record. -/
structure Rec where
  k : Int
  ep : Int
  tm : Int
  ct : Int
  tg : Int
  un : Int
  rt : List UInt8
  nm : List UInt8
theorem same {a b : Rec} (h1 : a.k = b.k) (h2 : a.ep = b.ep) (h3 : a.tm = b.tm) (h4 : a.ct = b.ct) (h5 : a.tg = b.tg) (h6 : a.un = b.un) (h7 : a.rt = b.rt) (h8 : a.nm = b.nm) : a = b := by
  obtain ⟨_, _, _, _, _, _, _, _⟩ := a
  obtain ⟨_, _, _, _, _, _, _, _⟩ := b
  simp only at h1 h2 h3 h4 h5 h6 h7 h8
  rw [h1, h2, h3, h4, h5, h6, h7, h8]
def zero : Rec := ⟨0, 0, 0, 0, 0, 0, [], []⟩
/-- A letter, or a digit. -/
def letter (b : UInt8) : Bool := decide (97 ≤ b.toNat ∧ b.toNat ≤ 122) || decide (48 ≤ b.toNat ∧ b.toNat ≤ 57)
def isName (s : List UInt8) : Bool := decide (1 ≤ s.length ∧ s.length ≤ 16) && s.all letter
theorem name_len {s : List UInt8} (h : isName s = true) : 1 ≤ s.length ∧ s.length ≤ 16 := by
  unfold isName at h
  rw [Bool.and_eq_true, decide_eq_true_eq] at h
  exact h.1
/-- A record that may be. -/
def low (r : Rec) : Prop := 0 ≤ r.ep ∧ r.ep ≤ 4294967295 ∧ 0 ≤ r.tm ∧ r.tm ≤ 1099511627776
def aim (r : Rec) : Prop := 0 ≤ r.tg ∧ r.tg < r.ep
def due (r : Rec) : Prop := 0 ≤ r.un ∧ r.un ≤ 1099511627776
def fit1 (r : Rec) : Prop := 0 ≤ r.ct ∧ r.ct ≤ 4096 ∧ r.rt.length = 32 ∧ r.tg = 0 ∧ r.un = 0 ∧ r.nm = []
def fit2 (r : Rec) : Prop := aim r ∧ due r ∧ r.ct = 0 ∧ r.rt = [] ∧ r.nm = []
def fit3 (r : Rec) : Prop := aim r ∧ isName r.nm = true ∧ r.un = 0 ∧ r.ct = 0 ∧ r.rt = []
def fit4 (r : Rec) : Prop := isName r.nm = true ∧ r.tg = 0 ∧ r.un = 0 ∧ r.ct = 0 ∧ r.rt = []
def fit (r : Rec) : Prop := (r.k = 1 ∧ fit1 r) ∨ (r.k = 2 ∧ fit2 r) ∨ (r.k = 3 ∧ fit3 r) ∨ (r.k = 4 ∧ fit4 r) ∨ (r.k = 5 ∧ fit2 r)
def right (r : Rec) : Prop := low r ∧ fit r
instance (r : Rec) : Decidable (low r) := inferInstanceAs (Decidable (_ ∧ _ ∧ _ ∧ _))
instance (r : Rec) : Decidable (aim r) := inferInstanceAs (Decidable (_ ∧ _))
instance (r : Rec) : Decidable (due r) := inferInstanceAs (Decidable (_ ∧ _))
instance (r : Rec) : Decidable (fit1 r) := inferInstanceAs (Decidable (_ ∧ _ ∧ _ ∧ _ ∧ _ ∧ _))
instance (r : Rec) : Decidable (fit2 r) := inferInstanceAs (Decidable (_ ∧ _ ∧ _ ∧ _ ∧ _))
instance (r : Rec) : Decidable (fit3 r) := inferInstanceAs (Decidable (_ ∧ _ ∧ _ ∧ _ ∧ _))
instance (r : Rec) : Decidable (fit4 r) := inferInstanceAs (Decidable (_ ∧ _ ∧ _ ∧ _ ∧ _))
instance (r : Rec) : Decidable (fit r) := inferInstanceAs (Decidable (_ ∨ _ ∨ _ ∨ _ ∨ _))
instance (r : Rec) : Decidable (right r) := inferInstanceAs (Decidable (_ ∧ _))
/-- What bounds a record that may be. -/
theorem bounds {r : Rec} (h : right r) : (1 ≤ r.k ∧ r.k ≤ 5) ∧ (0 ≤ r.ep ∧ r.ep ≤ 4294967295) ∧ (0 ≤ r.tm ∧ r.tm ≤ 1099511627776) ∧ (0 ≤ r.ct ∧ r.ct ≤ 4096) ∧ (0 ≤ r.tg ∧ r.tg ≤ 4294967295) ∧ (0 ≤ r.un ∧ r.un ≤ 1099511627776) ∧ r.rt.length ≤ 32 ∧ r.nm.length ≤ 16 := by
  obtain ⟨⟨a1, a2, a3, a4⟩, h⟩ := h
  rcases h with ⟨hk, b1, b2, b3, b4, b5, b6⟩ | ⟨hk, ⟨b1, b2⟩, ⟨b3, b4⟩, b5, b6, b7⟩ | ⟨hk, ⟨b1, b2⟩, b3, b4, b5, b6⟩ | ⟨hk, b3, b4, b5, b6, b7⟩ | ⟨hk, ⟨b1, b2⟩, ⟨b3, b4⟩, b5, b6, b7⟩
  · rw [b6]; simp only [List.length_nil]; omega
  · rw [b6, b7]; simp only [List.length_nil]; omega
  · have := name_len b3
    rw [b6]; simp only [List.length_nil]; omega
  · have := name_len b3
    rw [b7]; simp only [List.length_nil]; omega
  · rw [b6, b7]; simp only [List.length_nil]; omega
/-- The widths, and a record's numbers. -/
def ws : List Int := [1, 4, 8, 4, 4, 8]
def nums (r : Rec) : List Int := [r.k, r.ep, r.tm, r.ct, r.tg, r.un]
theorem ok6 {r : Rec} (h : right r) : okTo ws (nums r) 6 := by
  obtain ⟨h1, h2, h3, h4, h5, h6, _⟩ := bounds h
  intro j hj
  match j, hj with
  | 0, _ => show (put r.k 1).2 = 0; rw [put_good _ _ (by omega) (by omega) (by omega) (by simp only [Int.reduceToNat, Int.reducePow]; omega)]
  | 1, _ => show (put r.ep 4).2 = 0; rw [put_good _ _ (by omega) (by omega) (by omega) (by simp only [Int.reduceToNat, Int.reducePow]; omega)]
  | 2, _ => show (put r.tm 8).2 = 0; rw [put_good _ _ (by omega) (by omega) (by omega) (by simp only [Int.reduceToNat, Int.reducePow]; omega)]
  | 3, _ => show (put r.ct 4).2 = 0; rw [put_good _ _ (by omega) (by omega) (by omega) (by simp only [Int.reduceToNat, Int.reducePow]; omega)]
  | 4, _ => show (put r.tg 4).2 = 0; rw [put_good _ _ (by omega) (by omega) (by omega) (by simp only [Int.reduceToNat, Int.reducePow]; omega)]
  | 5, _ => show (put r.un 8).2 = 0; rw [put_good _ _ (by omega) (by omega) (by omega) (by simp only [Int.reduceToNat, Int.reducePow]; omega)]
theorem nums_int {r : Rec} (h : right r) : ∀ x ∈ nums r, x ≤ 9223372036854775807 := by
  obtain ⟨h1, h2, h3, h4, h5, h6, _⟩ := bounds h
  intro x hx
  simp only [nums, List.mem_cons, List.not_mem_nil, or_false] at hx
  rcases hx with rfl | rfl | rfl | rfl | rfl | rfl <;> omega
/-- What is ahead of the two texts. -/
def head (r : Rec) : List UInt8 := packTo ws (nums r) 6
theorem pack_head {r : Rec} (h : right r) : pack ws (nums r) = (head r, 0) := by
  rw [pack, if_pos ⟨rfl, ok6 h⟩]
  rfl
theorem sum6 : sumTo ws 6 = 29 := rfl
theorem head_len {r : Rec} (h : right r) : (head r).length = 29 := by
  rw [head, packTo_sum ws (nums r) (nums_int h) 6 (ok6 h), sum6]
theorem unpack_head {r : Rec} (h : right r) : unpack ws (head r) = (nums r, 0) := unpack_pack ws (nums r) (nums_int h) rfl (ok6 h)
/-- A text behind its length. -/
def txt (l : List UInt8) : List UInt8 := be 4 l.length ++ l
theorem txt_len (l : List UInt8) : (txt l).length = 4 + l.length := by rw [txt, List.length_append, be_length]
/-- A record's bytes. -/
def bytes (r : Rec) : List UInt8 := head r ++ txt r.rt ++ txt r.nm
theorem bytes_len {r : Rec} (h : right r) : (bytes r).length = 37 + r.rt.length + r.nm.length := by
  rw [bytes, List.length_append, List.length_append, head_len h, txt_len, txt_len]; omega
/-- The parts of what may be a record's bytes. -/
def un_ (s : List UInt8) : List Int × Int := unpack ws (s.take 29)
def c1 (s : List UInt8) : List UInt8 × List UInt8 × Int := cut (s.drop 29)
def c2 (s : List UInt8) : List UInt8 × List UInt8 × Int := cut (c1 s).2.1
def got (s : List UInt8) : Rec := ⟨(un_ s).1.getD 0 0, (un_ s).1.getD 1 0, (un_ s).1.getD 2 0, (un_ s).1.getD 3 0, (un_ s).1.getD 4 0, (un_ s).1.getD 5 0, (c1 s).1, (c2 s).1⟩
def took (s : List UInt8) : Prop := 29 ≤ s.length ∧ (un_ s).2 = 0 ∧ (c1 s).2.2 = 0 ∧ (c2 s).2.2 = 0 ∧ right (got s)
instance (s : List UInt8) : Decidable (took s) := inferInstanceAs (Decidable (_ ∧ _ ∧ _ ∧ _ ∧ _))
/-- The record with whose bytes a text begins, what is behind it, and whether there is one. -/
def take_ (s : List UInt8) : Rec × List UInt8 × Bool := if took s then (got s, (c2 s).2.1, true) else (zero, [], false)
theorem take_yes {s : List UInt8} (h : took s) : take_ s = (got s, (c2 s).2.1, true) := if_pos h
theorem take_no {s : List UInt8} (h : ¬ took s) : take_ s = (zero, [], false) := if_neg h
/-- What was put is taken, whatever is behind it. -/
theorem take_bytes {r : Rec} (h : right r) (l : List UInt8) : take_ (bytes r ++ l) = (r, l, true) := by
  have hb := bounds h
  have h29 := head_len h
  have e0 : bytes r ++ l = head r ++ (be 4 r.rt.length ++ r.rt ++ (be 4 r.nm.length ++ r.nm ++ l)) := by
    rw [bytes, txt, txt]; simp only [List.append_assoc]
  have e1 : un_ (bytes r ++ l) = (nums r, 0) := by
    rw [un_, e0, List.take_append_of_le_length (by omega), List.take_of_length_le (by omega), unpack_head h]
  have e2 : c1 (bytes r ++ l) = (r.rt, be 4 r.nm.length ++ r.nm ++ l, 0) := by
    rw [c1, e0, List.drop_append_of_le_length (by omega), List.drop_of_length_le (by omega), List.nil_append, cut_text _ _ (by omega)]
  have e3 : c2 (bytes r ++ l) = (r.nm, l, 0) := by
    rw [c2, e2, cut_text _ _ (by omega)]
  have e4 : got (bytes r ++ l) = r := by
    rw [got, e1, e2, e3]; rfl
  have ht : took (bytes r ++ l) := ⟨by rw [e0, List.length_append]; omega, by rw [e1], by rw [e2], by rw [e3], by rw [e4]; exact h⟩
  rw [take_yes ht, e4, e3]
theorem cut_back {l a b : List UInt8} (h : cut l = (a, b, 0)) : txt a ++ b = l := by
  by_cases hg : l.length < 4 ∨ l.length - 4 < num (l.take 4)
  · rw [cut_bad l hg] at h
    cases h
  · have h1 : 4 ≤ l.length := by omega
    have h2 : num (l.take 4) ≤ l.length - 4 := by omega
    rw [cut_good l h1 h2] at h
    simp only [Prod.mk.injEq, and_true] at h
    obtain ⟨rfl, rfl⟩ := h
    have h3 : ((l.drop 4).take (num (l.take 4))).length = num (l.take 4) := by rw [List.length_take, List.length_drop]; omega
    have h4 : (l.take 4).length = 4 := by rw [List.length_take]; omega
    have h5 : be 4 (num (l.take 4)) = l.take 4 := by
      have := be_num (l.take 4)
      rw [h4] at this
      exact this
    rw [txt, h3, h5, List.append_assoc, List.take_append_drop, List.take_append_drop]
/-- Numbers that were taken, put again. -/
theorem pack_back (l : List UInt8) (hl : l.length = 29) (h : gotTo ws l 6) : packTo ws (numsTo ws l 6) 6 = l := by
  have key : ∀ i, i < 6 → put ((numsTo ws l 6).getD i 0) (ws.getD i 0) = (piece ws l i, 0) := by
    intro i hi
    have e : (numsTo ws l 6).getD i 0 = (get (piece ws l i)).1 := by
      match i, hi with
      | 0, _ => rfl
      | 1, _ => rfl
      | 2, _ => rfl
      | 3, _ => rfl
      | 4, _ => rfl
      | 5, _ => rfl
    have hp : ((piece ws l i).length : Int) = ws.getD i 0 := by
      match i, hi with
      | 0, _ => show (((l.drop 0).take 1).length : Int) = 1; rw [List.length_take, List.length_drop]; omega
      | 1, _ => show (((l.drop 1).take 4).length : Int) = 4; rw [List.length_take, List.length_drop]; omega
      | 2, _ => show (((l.drop 5).take 8).length : Int) = 8; rw [List.length_take, List.length_drop]; omega
      | 3, _ => show (((l.drop 13).take 4).length : Int) = 4; rw [List.length_take, List.length_drop]; omega
      | 4, _ => show (((l.drop 17).take 4).length : Int) = 4; rw [List.length_take, List.length_drop]; omega
      | 5, _ => show (((l.drop 21).take 8).length : Int) = 8; rw [List.length_take, List.length_drop]; omega
    rw [e, ← hp]
    exact put_get _ (h i hi)
  have hs : ∀ i, i ≤ 6 → packTo ws (numsTo ws l 6) i = l.take (sumTo ws i) := by
    intro i
    induction i with
    | zero => intro _; rfl
    | succ i ih =>
      intro hi
      rw [packTo, ih (by omega), key i (by omega), sumTo, List.take_add]
      rfl
  rw [hs 6 (Nat.le_refl _), sum6, List.take_of_length_le (by omega)]
/-- What was taken, put, is what was cut off. -/
theorem bytes_take {s : List UInt8} (h : took s) : bytes (got s) ++ (c2 s).2.1 = s := by
  obtain ⟨h1, h2, h3, h4, _⟩ := h
  have hl : (s.take 29).length = 29 := by rw [List.length_take]; omega
  have hu : un_ s = (numsTo ws (s.take 29) 6, 0) ∧ gotTo ws (s.take 29) 6 := by
    have hw : widthsTo ws ws.length := (by decide : ∀ j, j < 6 → 1 ≤ ws.getD j 0 ∧ ws.getD j 0 ≤ 8)
    by_cases hg : gotTo ws (s.take 29) ws.length
    · exact ⟨unpack_good ws _ hw (by rw [hl]; rfl) hg, hg⟩
    · have := unpack_bad ws (s.take 29) hw (by rw [hl]; rfl) hg
      rw [un_, this] at h2
      cases h2
  have e1 : nums (got s) = numsTo ws (s.take 29) 6 := by
    rw [got, hu.1]; rfl
  have e2 : head (got s) = s.take 29 := by
    rw [head, e1, pack_back _ hl hu.2]
  have e3 : txt (c1 s).1 ++ (c1 s).2.1 = s.drop 29 := cut_back (l := s.drop 29) (by
    show c1 s = _
    rw [← h3])
  have e4 : txt (c2 s).1 ++ (c2 s).2.1 = (c1 s).2.1 := cut_back (l := (c1 s).2.1) (by
    show c2 s = _
    rw [← h4])
  show (head (got s) ++ txt (c1 s).1 ++ txt (c2 s).1) ++ (c2 s).2.1 = s
  rw [List.append_assoc, e4, List.append_assoc, e3, e2, List.take_append_drop]
/-- Unlike records have unlike bytes, of which none begins with the other's. -/
theorem begins {a b : Rec} {x y : List UInt8} (ha : right a) (hb : right b) (h : bytes a ++ x = bytes b ++ y) : a = b := by
  have h1 := take_bytes ha x
  have h2 := take_bytes hb y
  rw [h, h2] at h1
  exact (Prod.mk.inj h1).1.symm
theorem bytes_inj {a b : Rec} (ha : right a) (hb : right b) (h : bytes a = bytes b) : a = b := begins (x := []) (y := []) ha hb (by rw [h])
theorem apart {a b : Rec} {n : Nat} (ha : right a) (hb : right b) (hn : n = min (bytes a).length (bytes b).length) (h : (bytes a).take n = (bytes b).take n) : a = b := by
  rcases Nat.le_total (bytes a).length (bytes b).length with hle | hle
  · rw [hn, Nat.min_eq_left hle, List.take_of_length_le (Nat.le_refl _)] at h
    refine begins (x := (bytes b).drop (bytes a).length) (y := []) ha hb ?_
    conv => lhs; rw [h]
    rw [List.length_take, Nat.min_eq_left hle, List.take_append_drop, List.append_nil]
  · rw [hn, Nat.min_eq_right hle, List.take_of_length_le (l := bytes b) (Nat.le_refl _)] at h
    refine begins (x := []) (y := (bytes a).drop (bytes b).length) ha hb ?_
    conv => rhs; rw [← h]
    rw [List.length_take, Nat.min_eq_left hle, List.take_append_drop, List.append_nil]
end Go.Proofs.YtopnodkdpehdoaaGreatDoor.RecN
