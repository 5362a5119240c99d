/- OctNum OctUnp Mem Slice: one behind the other. -/
import Derived.WalkKit
import Derived.Below
import Derived.Laws.BytesArg
import Derived.Lib.Hide
import Derived.Laws.Rows
import Derived.Deep.Draws
import Derived.Lib.ConvBytes
import Derived.Lib.AppendStr
import Derived.OpenShut
/- Plain mathematics: numbers as rows of bytes, the highest byte first. No program is reached here; no conditions. -/
namespace Go.Proofs.YtghljhohbhkdeaaDoor
/-- 'n' in 'k' bytes, the highest first. -/
def be : Nat → Nat → List UInt8
  | 0, _ => []
  | k + 1, n => UInt8.ofNat (n / 256 ^ k) :: be k n
/-- The number of a row of bytes. -/
def num : List UInt8 → Nat := fun l => l.foldl (fun a b => 256 * a + b.toNat) 0
theorem be_length : ∀ (k n : Nat), (be k n).length = k
  | 0, _ => rfl
  | k + 1, n => by simp [be, be_length k n]
theorem num_append (l m : List UInt8) : num (l ++ m) = 256 ^ m.length * num l + num m := by
  unfold num
  rw [List.foldl_append]
  generalize List.foldl _ 0 l = a
  have h : ∀ (m : List UInt8) (a : Nat), List.foldl (fun a b => 256 * a + b.toNat) a m = 256 ^ m.length * a + List.foldl (fun a b => 256 * a + b.toNat) 0 m := by
    intro m
    induction m with
    | nil => intro a; simp
    | cons x m ih =>
      intro a
      rw [List.foldl_cons, List.foldl_cons, ih, ih (256 * 0 + x.toNat)]
      simp only [List.length_cons, Nat.pow_succ, Nat.mul_add, Nat.mul_zero, Nat.zero_add]
      rw [Nat.mul_assoc (256 ^ m.length) 256 a]
      omega
  exact h m a
theorem num_snoc (l : List UInt8) (b : UInt8) : num (l ++ [b]) = 256 * num l + b.toNat := by
  rw [num_append]; simp [num]
theorem num_cons (b : UInt8) (l : List UInt8) : num (b :: l) = 256 ^ l.length * b.toNat + num l := by
  have := num_append [b] l
  simpa [num] using this
theorem num_lt (l : List UInt8) : num l < 256 ^ l.length := by
  induction l with
  | nil => simp [num]
  | cons b l ih =>
    rw [num_cons, List.length_cons, Nat.pow_succ]
    have hb : b.toNat ≤ 255 := by have := b.toNat_lt; omega
    have : 256 ^ l.length * b.toNat ≤ 256 ^ l.length * 255 := Nat.mul_le_mul_left _ hb
    omega
theorem num_be : ∀ (k n : Nat), num (be k n) = n % 256 ^ k
  | 0, n => by simp [be, num, Nat.mod_one]
  | k + 1, n => by
    rw [be, num_cons, be_length, num_be k n, UInt8.toNat_ofNat']
    have h : n % 256 ^ (k + 1) = n % 256 ^ k + 256 ^ k * (n / 256 ^ k % 256) := by
      rw [Nat.pow_succ, Nat.mod_mul]
    rw [h]
    simp only [Nat.reducePow]
    omega
theorem num_take_le (l : List UInt8) (k : Nat) : num (l.take k) ≤ num l := by
  have h := num_append (l.take k) (l.drop k)
  rw [List.take_append_drop] at h
  have hp : 0 < 256 ^ (l.drop k).length := Nat.pow_pos (by omega)
  have := Nat.le_mul_of_pos_left (num (l.take k)) hp
  omega
theorem num_head (b : UInt8) (l : List UInt8) (h : l.length = 7) : num (b :: l) < 9223372036854775808 ↔ b.toNat < 128 := by
  have h1 := num_lt l
  rw [num_cons, h] at *
  simp only [Nat.reducePow] at *
  omega
theorem take_snoc (s : ByteArray) (k : Nat) (h : k < s.size) : s.data.toList.take (k + 1) = s.data.toList.take k ++ [s[k]] := by
  rw [List.take_succ_eq_append_getElem (by simpa using h)]; rfl
theorem num_eight (s : ByteArray) (h : s.size = 8) : num s.data.toList < 9223372036854775808 ↔ (s[0]'(by omega)).toNat < 128 := by
  have hl : s.data.toList.length = 8 := by simpa using h
  have e : s.data.toList = s[0]'(by omega) :: s.data.toList.drop 1 := by
    conv => lhs; rw [← List.take_append_drop 1 s.data.toList, take_snoc s 0 (by omega)]
    rfl
  rw [e]
  exact num_head _ _ (by simp; omega)
theorem be_mod : ∀ (k n m : Nat), k ≤ m → be k (n % 256 ^ m) = be k n
  | 0, _, _, _ => rfl
  | k + 1, n, m, h => by
    rw [be, be, be_mod k n m (by omega)]
    congr 1
    apply UInt8.toNat_inj.1
    rw [UInt8.toNat_ofNat', UInt8.toNat_ofNat']
    obtain ⟨d, rfl⟩ : ∃ d, m = k + (d + 1) := ⟨m - k - 1, by omega⟩
    rw [Nat.pow_add, Nat.mod_mul_right_div_self, Nat.pow_succ, Nat.mul_comm, Nat.mod_mul_right_mod]
theorem be_four (n : Nat) : be 4 ((n : Int) % 4294967296).toNat = be 4 n := by
  have e : ((n : Int) % 4294967296).toNat = n % 256 ^ 4 := by omega
  rw [e, be_mod 4 n 4 (Nat.le_refl _)]
/-- A text behind its length in four bytes. -/
def text (s : ByteArray) : ByteArray := ⟨(be 4 s.size).toArray⟩ ++ s
theorem be_num : ∀ (l : List UInt8), be l.length (num l) = l
  | [] => rfl
  | b :: l => by
    have hl := num_lt l
    have hp : 0 < 256 ^ l.length := Nat.pow_pos (by omega)
    rw [List.length_cons, be, num_cons]
    have h1 : (256 ^ l.length * b.toNat + num l) / 256 ^ l.length = b.toNat := by
      rw [Nat.mul_add_div hp, Nat.div_eq_of_lt hl, Nat.add_zero]
    rw [h1]
    have h2 : ∀ (k a m : Nat), be k (256 ^ k * a + m) = be k m := by
      intro k
      have h3 : ∀ (j k a m : Nat), j ≤ k → be j (256 ^ k * a + m) = be j m := by
        intro j
        induction j with
        | zero => intros; rfl
        | succ j ih =>
          intro k a m hj
          rw [be, be, ih k a m (by omega)]
          congr 1
          obtain ⟨d, rfl⟩ : ∃ d, k = j + 1 + d := ⟨k - (j + 1), by omega⟩
          have : 256 ^ (j + 1 + d) * a + m = 256 ^ j * (256 * (256 ^ d * a)) + m := by
            rw [Nat.pow_add, Nat.pow_succ]; simp only [Nat.mul_assoc]
          rw [this, Nat.mul_add_div (Nat.pow_pos (by omega))]
          apply UInt8.toNat_inj.1
          rw [UInt8.toNat_ofNat', UInt8.toNat_ofNat']
          simp only [Nat.reducePow]
          omega
      intro a m
      exact h3 k k a m (Nat.le_refl _)
    rw [h2, be_num l]
    simp
theorem lt256 (n k : Nat) : (n : Int) < 256 ^ k ↔ n < 256 ^ k := by
  rw [show (256 : Int) ^ k = ((256 ^ k : Nat) : Int) from (Int.natCast_pow 256 k).symm]
  exact Int.ofNat_lt
/-- What Put answers: the bytes and the error's number. -/
def put (n width : Int) : List UInt8 × Int := if 1 ≤ width ∧ width ≤ 8 ∧ 0 ≤ n ∧ n < 256 ^ width.toNat then (be width.toNat n.toNat, 0) else ([], 2)
theorem put_good (n width : Int) (h1 : 1 ≤ width) (h2 : width ≤ 8) (h3 : 0 ≤ n) (h4 : n < 256 ^ width.toNat) : put n width = (be width.toNat n.toNat, 0) := if_pos ⟨h1, h2, h3, h4⟩
theorem put_bad (n width : Int) (h : ¬ (1 ≤ width ∧ width ≤ 8 ∧ 0 ≤ n ∧ n < 256 ^ width.toNat)) : put n width = ([], 2) := if_neg h
theorem or8 (n b : Nat) (hn : n < 72057594037927936) (hb : b < 256) : bits .or .u64 ((n : Int) * 256) (IntKind.u64.wrap (b : Int)) = ((256 * n + b : Nat) : Int) := by
  have e : IntKind.u64.wrap (b : Int) = (b : Int) := by simp [IntKind.wrap, IntKind.bits, IntKind.signed]; omega
  have e2 : (n : Int) * 256 = ((2 ^ 8 * n : Nat) : Int) := by omega
  rw [e, e2, u64_or_nat _ _ (by omega) (by omega), ← Nat.two_pow_add_eq_or_of_lt (by omega)]
/-- What Get answers: the number and the error's number. -/
def get (l : List UInt8) : Int × Int := if 1 ≤ l.length ∧ l.length ≤ 8 ∧ num l < 9223372036854775808 then (num l, 0) else (0, 3)
theorem get_good (l : List UInt8) (h1 : 1 ≤ l.length) (h2 : l.length ≤ 8) (h3 : num l < 9223372036854775808) : get l = ((num l : Int), 0) := if_pos ⟨h1, h2, h3⟩
theorem get_bad (l : List UInt8) (h : ¬ (1 ≤ l.length ∧ l.length ≤ 8 ∧ num l < 9223372036854775808)) : get l = (0, 3) := if_neg h
theorem less_num : ∀ (l m : List UInt8), l.length = m.length → Op.bytesLess l m = decide (num l < num m)
  | [], [], _ => by simp [Op.bytesLess, num]
  | [], _ :: _, h => by simp at h
  | _ :: _, [], h => by simp at h
  | a :: l, b :: m, h => by
    have h' : l.length = m.length := by simpa using h
    have h1 := num_lt l
    have h2 := num_lt m
    rw [Op.bytesLess, less_num l m h', num_cons, num_cons, ← h']
    rw [← h'] at h2
    generalize 256 ^ l.length = p at *
    rcases Nat.lt_trichotomy a.toNat b.toNat with hlt | heq | hgt
    · have hm : p * (a.toNat + 1) ≤ p * b.toNat := Nat.mul_le_mul_left _ hlt
      rw [Nat.mul_add] at hm
      have hd : a < b := UInt8.lt_iff_toNat_lt.2 hlt
      have : p * a.toNat + num l < p * b.toNat + num m := by omega
      simp [hd, this]
    · obtain rfl : a = b := UInt8.toNat_inj.1 heq
      simp
    · have hm : p * (b.toNat + 1) ≤ p * a.toNat := Nat.mul_le_mul_left _ hgt
      rw [Nat.mul_add] at hm
      have hd : ¬ a < b := fun hh => by have := UInt8.lt_iff_toNat_lt.1 hh; omega
      have hn : ¬ a = b := fun hh => by rw [hh] at hgt; omega
      have : ¬ p * a.toNat + num l < p * b.toNat + num m := by omega
      simp [hd, this, hn]
/-- What is put is as many bytes as the width, and tells the number. -/
theorem put_ok (n width : Int) (h : (put n width).2 = 0) : ∃ l, put n width = (l, 0) ∧ (l.length : Int) = width ∧ (num l : Int) = n := by
  by_cases hg : 1 ≤ width ∧ width ≤ 8 ∧ 0 ≤ n ∧ n < 256 ^ width.toNat
  · refine ⟨be width.toNat n.toNat, if_pos hg, by rw [be_length]; omega, ?_⟩
    obtain ⟨h1, h2, h3, h4⟩ := hg
    obtain ⟨m, rfl⟩ := Int.eq_ofNat_of_zero_le h3
    rw [Int.toNat_natCast, num_be, Nat.mod_eq_of_lt ((lt256 m _).1 h4)]
  · rw [put_bad n width hg] at h
    simp at h
theorem put_no (n width : Int) (h : ¬ (put n width).2 = 0) : put n width = ([], 2) := by
  by_cases hg : 1 ≤ width ∧ width ≤ 8 ∧ 0 ≤ n ∧ n < 256 ^ width.toNat
  · exact absurd (by rw [put, if_pos hg]) h
  · exact put_bad n width hg
theorem num_inj (l m : List UInt8) (h : l.length = m.length) (e : num l = num m) : l = m := by
  rw [← be_num l, ← be_num m, h, e]
/-- What Cut answers: the text, what is behind it, and the error's number. -/
def cut (l : List UInt8) : List UInt8 × List UInt8 × Int :=
  if l.length < 4 ∨ l.length - 4 < num (l.take 4) then ([], [], 3) else ((l.drop 4).take (num (l.take 4)), (l.drop 4).drop (num (l.take 4)), 0)
theorem cut_bad (l : List UInt8) (h : l.length < 4 ∨ l.length - 4 < num (l.take 4)) : cut l = ([], [], 3) := if_pos h
theorem cut_good (l : List UInt8) (h1 : 4 ≤ l.length) (h2 : num (l.take 4) ≤ l.length - 4) : cut l = ((l.drop 4).take (num (l.take 4)), (l.drop 4).drop (num (l.take 4)), 0) := if_neg (by omega)
theorem get_four (l : List UInt8) (h : 4 ≤ l.length) : get (l.take 4) = ((num (l.take 4) : Int), 0) ∧ num (l.take 4) < 4294967296 := by
  have hl : (l.take 4).length = 4 := by simp; omega
  have hn := num_lt (l.take 4)
  rw [hl] at hn
  exact ⟨get_good _ (by omega) (by omega) (by omega), by omega⟩
theorem ext_take (l : List UInt8) (n : Nat) (h : n ≤ l.length - 4) : ((⟨l.toArray⟩ : ByteArray).extract 4 l.length).extract 0 n = ⟨((l.drop 4).take n).toArray⟩ := by
  rw [ByteArray.extract_mk, ByteArray.extract_mk, List.drop_zero, Nat.sub_zero, List.take_take, Nat.min_eq_left h]
theorem ext_drop (l : List UInt8) (n : Nat) : ((⟨l.toArray⟩ : ByteArray).extract 4 l.length).extract n (l.length - 4) = ⟨((l.drop 4).drop n).toArray⟩ := by
  rw [ByteArray.extract_mk, ByteArray.extract_mk, List.take_of_length_le (l := l.drop 4) (by simp), List.take_of_length_le (by simp; omega)]
theorem ext_mid (l : List UInt8) (n : Nat) : (⟨l.toArray⟩ : ByteArray).extract 4 (4 + n) = ⟨((l.drop 4).take n).toArray⟩ := by
  rw [ByteArray.extract_mk, Nat.add_sub_cancel_left]
theorem ext_end (l : List UInt8) (n : Nat) : (⟨l.toArray⟩ : ByteArray).extract (4 + n) l.length = ⟨((l.drop 4).drop n).toArray⟩ := by
  rw [ByteArray.extract_mk, List.drop_drop, List.take_of_length_le (by simp)]
/-- What Fill answers: the text with noughts behind it, and the error's number. -/
def fill (s : ByteArray) (n : Int) : ByteArray × Int := if 65536 < n ∨ n < (s.size : Int) then (⟨#[]⟩, 2) else (s ++ ⟨(List.replicate (n - s.size).toNat 0).toArray⟩, 0)
theorem fill_bad (s : ByteArray) (n : Int) (h : 65536 < n ∨ n < (s.size : Int)) : fill s n = (⟨#[]⟩, 2) := if_pos h
theorem fill_good (s : ByteArray) (k : Nat) (h : s.size + k ≤ 65536) : fill s ((s.size + k : Nat) : Int) = (s ++ ⟨(List.replicate k 0).toArray⟩, 0) := by
  rw [fill, if_neg (by omega), show (((s.size + k : Nat) : Int) - s.size).toNat = k from by omega]
theorem be_le (n width : Int) : (put n width).1.length ≤ 8 := by
  by_cases hg : 1 ≤ width ∧ width ≤ 8 ∧ 0 ≤ n ∧ n < 256 ^ width.toNat
  · rw [put, if_pos hg]
    show (be width.toNat n.toNat).length ≤ 8
    rw [be_length]
    omega
  · rw [put_bad _ _ hg]
    simp
/-- The bytes of the first 'i' numbers in their widths. -/
def packTo (ws ls : List Int) : Nat → List UInt8
  | 0 => []
  | i + 1 => packTo ws ls i ++ (put (ls.getD i 0) (ws.getD i 0)).1
/-- The first 'i' numbers have room in their widths. -/
def okTo (ws ls : List Int) (i : Nat) : Prop := ∀ j, j < i → (put (ls.getD j 0) (ws.getD j 0)).2 = 0
/-- What Pack answers: the bytes and the error's number. -/
def pack (ws ls : List Int) : List UInt8 × Int :=
  if ws.length = ls.length ∧ ∀ j, j < ls.length → (put (ls.getD j 0) (ws.getD j 0)).2 = 0 then (packTo ws ls ls.length, 0) else ([], 2)
theorem packTo_length (ws ls : List Int) : ∀ i, (packTo ws ls i).length ≤ 8 * i
  | 0 => by simp [packTo]
  | i + 1 => by
    have := packTo_length ws ls i
    have := be_le (ls.getD i 0) (ws.getD i 0)
    rw [packTo, List.length_append]
    omega
theorem okTo_next {ws ls : List Int} {i : Nat} (h : okTo ws ls i) (hz : (put (ls.getD i 0) (ws.getD i 0)).2 = 0) : okTo ws ls (i + 1) := by
  intro j hj
  rcases Nat.lt_or_ge j i with h' | h'
  · exact h j h'
  · obtain rfl : j = i := by omega
    exact hz
end Go.Proofs.YtghljhohbhkdeaaDoor
/- Plain mathematics: several numbers, each in its width, taken off a row of bytes. No program is reached here; no conditions. -/
namespace Go.Proofs.YtghljhohbhkdeaaDoor
/-- How many bytes the first 'i' widths say together. -/
def sumTo (ws : List Int) : Nat → Nat
  | 0 => 0
  | i + 1 => sumTo ws i + (ws.getD i 0).toNat
def widthsTo (ws : List Int) (i : Nat) : Prop := ∀ j, j < i → 1 ≤ ws.getD j 0 ∧ ws.getD j 0 ≤ 8
def piece (ws : List Int) (l : List UInt8) (i : Nat) : List UInt8 := (l.drop (sumTo ws i)).take (ws.getD i 0).toNat
def numsTo (ws : List Int) (l : List UInt8) : Nat → List Int
  | 0 => []
  | i + 1 => numsTo ws l i ++ [(get (piece ws l i)).1]
def gotTo (ws : List Int) (l : List UInt8) (i : Nat) : Prop := ∀ j, j < i → (get (piece ws l j)).2 = 0
/-- What Unpack answers: the numbers and the error's number. -/
def unpack (ws : List Int) (l : List UInt8) : List Int × Int :=
  if ∀ j, j < ws.length → 1 ≤ ws.getD j 0 ∧ ws.getD j 0 ≤ 8 then
    if l.length = sumTo ws ws.length then if ∀ j, j < ws.length → (get (piece ws l j)).2 = 0 then (numsTo ws l ws.length, 0) else ([], 3) else ([], 3)
  else ([], 2)
theorem unpack_width (ws : List Int) (l : List UInt8) (h : ¬ widthsTo ws ws.length) : unpack ws l = ([], 2) := if_neg h
theorem unpack_sum (ws : List Int) (l : List UInt8) (h : widthsTo ws ws.length) (h2 : ¬ l.length = sumTo ws ws.length) : unpack ws l = ([], 3) := by
  have h' : ∀ j, j < ws.length → 1 ≤ ws.getD j 0 ∧ ws.getD j 0 ≤ 8 := h
  rw [unpack, if_pos h', if_neg h2]
theorem unpack_bad (ws : List Int) (l : List UInt8) (h : widthsTo ws ws.length) (h2 : l.length = sumTo ws ws.length) (h3 : ¬ gotTo ws l ws.length) : unpack ws l = ([], 3) := by
  have h' : ∀ j, j < ws.length → 1 ≤ ws.getD j 0 ∧ ws.getD j 0 ≤ 8 := h
  have h3' : ¬ ∀ j, j < ws.length → (get (piece ws l j)).2 = 0 := h3
  rw [unpack, if_pos h', if_pos h2, if_neg h3']
theorem unpack_good (ws : List Int) (l : List UInt8) (h : widthsTo ws ws.length) (h2 : l.length = sumTo ws ws.length) (h3 : gotTo ws l ws.length) : unpack ws l = (numsTo ws l ws.length, 0) := by
  have h' : ∀ j, j < ws.length → 1 ≤ ws.getD j 0 ∧ ws.getD j 0 ≤ 8 := h
  have h3' : ∀ j, j < ws.length → (get (piece ws l j)).2 = 0 := h3
  rw [unpack, if_pos h', if_pos h2, if_pos h3']
theorem numsTo_length (ws : List Int) (l : List UInt8) : ∀ i, (numsTo ws l i).length = i
  | 0 => rfl
  | i + 1 => by rw [numsTo, List.length_append, numsTo_length ws l i]; rfl
theorem sumTo_le (ws : List Int) : ∀ i, widthsTo ws i → sumTo ws i ≤ 8 * i
  | 0, _ => by simp [sumTo]
  | i + 1, h => by
    have h1 := sumTo_le ws i (fun j hj => h j (by omega))
    have h2 := (h i (by omega)).2
    rw [sumTo]
    omega
theorem sumTo_mono (ws : List Int) (i : Nat) : ∀ j, i ≤ j → sumTo ws i ≤ sumTo ws j
  | 0, h => by
    obtain rfl : i = 0 := by omega
    exact Nat.le_refl _
  | j + 1, h => by
    rcases Nat.lt_or_ge j i with h' | h'
    · obtain rfl : i = j + 1 := by omega
      exact Nat.le_refl _
    · have := sumTo_mono ws i j h'
      rw [sumTo]
      omega
theorem widthsTo_next {ws : List Int} {i : Nat} (h : widthsTo ws i) (h1 : 1 ≤ ws.getD i 0 ∧ ws.getD i 0 ≤ 8) : widthsTo ws (i + 1) := by
  intro j hj
  rcases Nat.lt_or_ge j i with h' | h'
  · exact h j h'
  · obtain rfl : j = i := by omega
    exact h1
theorem gotTo_next {ws : List Int} {l : List UInt8} {i : Nat} (h : gotTo ws l i) (h1 : (get (piece ws l i)).2 = 0) : gotTo ws l (i + 1) := by
  intro j hj
  rcases Nat.lt_or_ge j i with h' | h'
  · exact h j h'
  · obtain rfl : j = i := by omega
    exact h1
theorem get_no (l : List UInt8) (h : ¬ (get l).2 = 0) : get l = (0, 3) := by
  by_cases hg : 1 ≤ l.length ∧ l.length ≤ 8 ∧ num l < 9223372036854775808
  · exact absurd (by rw [get, if_pos hg]) h
  · exact get_bad l hg
theorem get_isInt (l : List UInt8) : -9223372036854775808 ≤ (get l).1 ∧ (get l).1 ≤ 9223372036854775807 := by
  by_cases hg : 1 ≤ l.length ∧ l.length ≤ 8 ∧ num l < 9223372036854775808
  · rw [get, if_pos hg]; have := hg.2.2; show _ ≤ ((num l : Nat) : Int) ∧ ((num l : Nat) : Int) ≤ _; omega
  · rw [get_bad l hg]; simp
theorem unpack_short (ws : List Int) (l : List UInt8) : (unpack ws l).1.length ≤ ws.length := by
  unfold unpack
  split
  · split
    · split
      · exact Nat.le_of_eq (numsTo_length ws l _)
      · simp
    · simp
  · simp
end Go.Proofs.YtghljhohbhkdeaaDoor
/- Small facts on memory: a block that is known whole; a row of bytes turned into a text. No conditions but those that each lemma names. -/
namespace Go.Proofs.YtghljhohbhkdeaaDoor
open Go.RowKit
theorem blk_set {w : World} {g i : Nat} {cs : Array Value} {t : TypeId} {f : Nat × Nat} {u : Value} (h : w.heap[g]? = some (.cells cs t f)) :
    (w.setCell ⟨g, i, none⟩ u).heap[g]? = some (.cells (cs.setIfInBounds i u) t f) := by
  simp [World.setCell, Array.getElem?_modify, h]
theorem blk_free {w : World} {g i : Nat} {cs : Array Value} {t : TypeId} (h : w.heap[g]? = some (.cells cs t (0, 0))) : w.frozen? ⟨g, i, none⟩ = false := by
  simp [World.frozen?, h]
theorem blk_cell {w : World} {g i : Nat} {cs : Array Value} {t : TypeId} {f : Nat × Nat} {u : Value} (h : w.heap[g]? = some (.cells cs t f)) (hu : cs[i]? = some u) : w.cell? ⟨g, i, none⟩ = some u := by
  rw [cell_of_row w g i cs t f h, hu]
/-- The cells of a row of bytes. -/
def bytesRow (l : List UInt8) : Array Value := (l.map fun b : UInt8 => Value.int .u8 b.toNat).toArray
theorem bytesRow_size (l : List UInt8) : (bytesRow l).size = l.length := by simp [bytesRow]
theorem bytesRow_at (l : List UInt8) (i : Nat) (h : i < l.length) : (bytesRow l)[i]? = some (.int .u8 l[i].toNat) := by simp [bytesRow, h]
theorem bytesRow_set (l : List UInt8) (i : Nat) (b : UInt8) : (bytesRow l).setIfInBounds i (.int .u8 b.toNat) = bytesRow (l.set i b) := by
  simp [bytesRow, List.map_set]
theorem nums_bytes (l : List UInt8) : strOfNums (l.map fun b => (b.toNat : Int)) = ⟨l.toArray⟩ := by
  simp [strOfNums, List.map_map, Function.comp_def]
theorem conv_row {P : Program} {w : World} {src dst e : TypeId} (hs : P.underlying src = some (.slice e)) (he : P.underlying e = some (.int .u8)) (hd : P.underlying dst = some .string)
    {g t len cap : Nat} {f : Nat × Nat} {l m : List UInt8} (h : w.heap[g]? = some (.cells (bytesRow (l ++ m)) t f)) (hl : l.length = len) :
    (convert src dst (.slice (some ⟨g, 0, none⟩) len cap)).run P w = .ok (.string ⟨l.toArray⟩) w := by
  rw [← nums_bytes]
  refine run_convert_bytes_arg w src e hs he g 0 len cap (l.map fun b => (b.toNat : Int)) (by simpa using hl) (fun i hi => ?_) dst hd
  rw [Nat.zero_add]
  have hi' : i < (l ++ m).length := by simp; omega
  rw [blk_cell h (bytesRow_at _ i hi')]
  simp [hl, hi, List.getD]
theorem one_byte (m : Nat) : #[Value.int .u8 ((m : Int) % 256)] = bytesRow ([UInt8.ofNat m] ++ []) := by
  simp [bytesRow]
theorem made_bytes (k : Nat) : madeCells #[Value.int .u8 0] k = bytesRow (List.replicate k 0) := by
  have h0 : ∀ i, i % 1 = 0 := fun i => by omega
  simp [bytesRow, madeCells, Array.ext_iff, h0]
theorem alloc3_0 (w : World) (A B C : Obj) : (((w.alloc A).alloc B).alloc C).heap[w.heap.size]? = some A := by
  rw [heap_alloc_old _ _ (by simp; omega)]; exact heap_alloc2_old w A B
theorem alloc3_1 (w : World) (A B C : Obj) : (((w.alloc A).alloc B).alloc C).heap[w.heap.size + 1]? = some B := by
  rw [heap_alloc_old _ _ (by simp)]; exact heap_alloc2_new w A B
theorem alloc3_2 (w : World) (A B C : Obj) : (((w.alloc A).alloc B).alloc C).heap[w.heap.size + 1 + 1]? = some C := by
  have := heap_alloc_new ((w.alloc A).alloc B) C
  simpa using this
theorem below_alloc3 (w : World) (A B C : Obj) : Below w.heap.size w (((w.alloc A).alloc B).alloc C) :=
  (((Below.refl _ _).alloc (Nat.le_refl _) _).alloc (by simp) _).alloc (by simp; omega) _
theorem below_drewN {b : Nat} (w : World) (n : Nat) : Below b w (w.drewN n) := by
  have h := Below.refl b w
  exact ⟨h.os, h.tape, h.output, h.size, h.block⟩
theorem setRow_same {w : World} {g : Nat} {cs old : Array Value} {t : TypeId} (h : w.heap[g]? = some (.cells old t (0, 0))) : (w.setRow g cs).heap[g]? = some (.cells cs t (0, 0)) := setRow_heap w g old cs t _ h
theorem setRow_far {w : World} {g k : Nat} {cs : Array Value} (h : k ≠ g) : (w.setRow g cs).heap[k]? = w.heap[k]? := setRow_other w g k cs h
theorem below_setRow {b : Nat} {a w : World} (h : Below b a w) {g : Nat} (hg : b ≤ g) (cs : Array Value) : Below b a (w.setRow g cs) :=
  h.trans ⟨rfl, rfl, rfl, by simp, fun k hk => setRow_far (by omega)⟩
theorem cell_far {w : World} {g i j n : Nat} {u v : Value} (h : i ≠ j) (hc : w.cell? ⟨g, i, none⟩ = some v) : ((w.drewN n).setCell ⟨g, j, none⟩ u).cell? ⟨g, i, none⟩ = some v :=
  (World.cell?_setCell_other (w.drewN n) ⟨g, j, none⟩ ⟨g, i, none⟩ u (fun e => by injection e; omega)).trans hc
theorem add_off (g i j : Nat) : (⟨g, i, none⟩ : Addr).add j = ⟨g, i + j, none⟩ := by unfold Addr.add; split <;> simp_all
/-- A whole array, or struct, read from where its cells are known. -/
theorem run_loadVar_at {P : Program} (w : World) (a : Addr) (ty : TypeId) (cs : Array Value) (d : TypeDesc) (hc : ∀ j v, cs[j]? = some v → w.cell? (a.add j) = some v)
    (hu : P.underlying ty = some d) (hd : (match d with | .struct _ | .array _ _ => true | _ => false) = true) (hi : (P.info? ty).map (·.size) = some cs.size) :
    (loadVar ty a).run P w = .ok (.agg cs) w := by
  have hl : (loadCells a cs.toList.length).run P w = .ok cs.toList.toArray w :=
    run_loadCells_list (P := P) w a cs.toList (fun j v hv => hc j v (by simpa using hv))
  cases hq : P.info? ty with
  | none => simp [hq] at hi
  | some i =>
    have hs : i.size = cs.size := by simpa [hq] using hi
    have hagg : (isAgg ty).run P w = .ok true w := by
      unfold isAgg
      rw [Sem.run_bind, run_underlying hu w]
      cases d <;> simp_all
    simp only [Array.length_toList, Array.toArray_toList] at hl
    simp [loadVar, Sem.run_bind, hagg, sizeOf, typeInfo, hq, hs, hl]
theorem wp_load_at {P : Program} {o : Oper} {a : Act} {w : World} {K : Act → World → Prop} {Q : Exit → Act → World → Prop} (ty : TypeId) (x : Operand) (ho : o.op = .load ty x)
    (p : Addr) (hx : a.eval x = .pointer (some p)) (cs : Array Value) (d : TypeDesc) (hc : ∀ j v, cs[j]? = some v → w.cell? (p.add j) = some v)
    (hu : P.underlying ty = some d) (hd : (match d with | .struct _ | .array _ _ => true | _ => false) = true) (hi : (P.info? ty).map (·.size) = some cs.size)
    (h : K (a.put o.dst (.agg cs)) w) : o.wp P a w K Q := by
  unfold Oper.wp execOp
  simp only [ho, hx, Instr.loadAt, Instr.sureAddr, Sem.run_bind, Sem.run_pure, Result.andThen_ok, run_loadVar_at w p ty cs d hc hu hd hi]
  exact h
theorem wpList_load_at {P : Program} {ops : Array Oper} {rest : List Oper} {o : Oper} {a : Act} {w : World} {Q : Exit → Act → World → Prop} (hgd : o.guard = none) (ty : TypeId) (x : Operand) (ho : o.op = .load ty x)
    (p : Addr) (hx : a.eval x = .pointer (some p)) (cs : Array Value) (d : TypeDesc) (hc : ∀ j v, cs[j]? = some v → w.cell? (p.add j) = some v)
    (hu : P.underlying ty = some d) (hd : (match d with | .struct _ | .array _ _ => true | _ => false) = true) (hi : (P.info? ty).map (·.size) = some cs.size)
    (h : wpList P ops Q rest (a.put o.dst (.agg cs)) w) : wpList P ops Q (o :: rest) a w :=
  wpList_plain hgd fun _ hK => wp_load_at ty x ho p hx cs d hc hu hd hi (hK _ _ h)
theorem step_load_at {P : Program} {ops : Array Oper} {o : Oper} {a : Act} {w : World} {K : Act → World → Prop} {Q : Exit → Act → World → Prop} {E : Prop} (hgd : o.guard = none) (ty : TypeId) (x : Operand) (ho : o.op = .load ty x)
    (p : Addr) (hx : a.eval x = .pointer (some p)) (cs : Array Value) (d : TypeDesc) (hc : ∀ j v, cs[j]? = some v → w.cell? (p.add j) = some v)
    (hu : P.underlying ty = some d) (hd : (match d with | .struct _ | .array _ _ => true | _ => false) = true) (hi : (P.info? ty).map (·.size) = some cs.size)
    (h : K (a.put o.dst (.agg cs)) w) : if Region.wanted o (yielded ops a.tmps) = true then Oper.wp P o a w K Q else E := by
  have hw : Region.wanted o (yielded ops a.tmps) = true := by simp [Region.wanted, hgd]
  rw [if_pos hw]
  exact wp_load_at ty x ho p hx cs d hc hu hd hi h
/-- '[]byte(s)': a new block that begins with the text's bytes. -/
theorem conv_new {P : Program} (w : World) {src dst e : TypeId} (s : List UInt8) (hs : P.underlying src = some .string) (hd : P.underlying dst = some (.slice e)) (he : P.underlying e = some (.int .u8)) :
    ∃ cap W', (convert src dst (.string ⟨s.toArray⟩)).run P w = .ok (.slice (some ⟨w.heap.size, 0, none⟩) s.length cap) W' ∧
      (∀ i, i < s.length → W'.cell? ⟨w.heap.size, i, none⟩ = some (.int .u8 (s.getD i 0).toNat)) ∧ Below w.heap.size w W' ∧ W'.heap.size = w.heap.size + 1 :=
  ⟨_, _, Lib.run_convert_string_bytes w src dst e ⟨s.toArray⟩ hs hd he, fun i hi => Lib.bytesWorld_cell w e ⟨s.toArray⟩ i hi,
    ⟨rfl, rfl, rfl, by rw [Lib.bytesWorld_size]; omega, fun k hk => Lib.bytesWorld_at_old w e _ k hk⟩, Lib.bytesWorld_size w e _⟩
end Go.Proofs.YtghljhohbhkdeaaDoor
/- Small facts on slices of integers and on rows that a call owns. No conditions but those that each lemma names. -/
namespace Go.Proofs.YtghljhohbhkdeaaDoor
open Go.RowKit
/-- A slice of integers as it came in: nil, or a row of cells (as the row's own reading gives it). -/
def IntsAt (k : IntKind) (w : World) (a : Option Addr) (len cap : Nat) (zs : List Int) : Prop :=
  (a = none ∧ len = 0 ∧ cap = 0 ∧ zs = []) ∨
  ∃ x, a = some x ∧ len ≤ cap ∧ cap ≤ maxLen ∧ zs.length = cap ∧ (∀ i, i < zs.length → w.cell? (x.add i) = some (.int k (zs.getD i 0))) ∧ ∀ n ∈ zs, (Lit.int k n).wf = true
/-- The slice value '.slice a n _' reads as the ints 'l', below block 'B'. -/
def Row (w : World) (B : Nat) (a : Option Addr) (n : Nat) (l : List Int) : Prop :=
  l.length = n ∧ (0 < n → ∃ b off, a = some ⟨b, off, none⟩ ∧ b < B ∧ ∀ i, i < n → w.cell? ⟨b, off + i, none⟩ = some (.int .i64 (l.getD i 0)))
theorem Row.keep {w w' : World} {B : Nat} {a : Option Addr} {n : Nat} {l : List Int} (h : Row w B a n l) (hk : ∀ k, k < B → w'.heap[k]? = w.heap[k]?) : Row w' B a n l :=
  ⟨h.1, fun hn => by
    obtain ⟨b, off, e, hb, hc⟩ := h.2 hn
    exact ⟨b, off, e, hb, fun i hi => (World.cell?_of_block (w := w) (w' := w') (hk b hb)).trans (hc i hi)⟩⟩
theorem Row.below {w w' : World} {B : Nat} {a : Option Addr} {n : Nat} {l : List Int} (h : Row w B a n l) (hb : Below B w w') : Row w' B a n l := h.keep hb.block
theorem Row.more {w : World} {B B' : Nat} {a : Option Addr} {n : Nat} {l : List Int} (h : Row w B a n l) (hb : B ≤ B') : Row w B' a n l :=
  ⟨h.1, fun hn => by
    obtain ⟨b, off, e, hb', hc⟩ := h.2 hn
    exact ⟨b, off, e, by omega, hc⟩⟩
/-- A number that a Go int holds. -/
def IsInt (n : Int) : Prop := -9223372036854775808 ≤ n ∧ n ≤ 9223372036854775807
theorem row_of {w : World} {a : Option Addr} {len cap : Nat} {zs : List Int} (h : IntsAt .i64 w a len cap zs) (hlt : ∀ b off, a = some ⟨b, off, none⟩ → 0 < len → b < w.heap.size) :
    ∃ l, Row w w.heap.size a len l ∧ ∀ n ∈ l, IsInt n := by
  rcases h with ⟨rfl, rfl, rfl, rfl⟩ | ⟨x, rfl, hl, _, hz, hc, hw⟩
  · exact ⟨[], ⟨rfl, fun h => absurd h (by omega)⟩, fun n hn => by simp at hn⟩
  · refine ⟨zs.take len, ⟨by simp; omega, fun hn => ?_⟩, fun n hn => bounds_i64 (hw n (List.mem_of_mem_take hn))⟩
    obtain ⟨b, off, rfl, hc'⟩ := ints_at hc (by omega)
    refine ⟨b, off, rfl, hlt b off rfl hn, fun i hi => ?_⟩
    rw [hc' i (by omega)]
    simp [List.getD, hi]
theorem row_at {w : World} {a : Option Addr} {len cap : Nat} {zs : List Int} (h : IntsAt .i64 w a len cap zs) : ∃ l, Row w w.heap.size a len l ∧ ∀ n ∈ l, IsInt n := by
  refine row_of h fun b off e hn => ?_
  rcases h with ⟨rfl, rfl, rfl, rfl⟩ | ⟨x, rfl, hl, _, hz, hc, hw⟩
  · omega
  · injection e with e
    subst e
    have := hc 0 (by omega)
    exact World.block_lt_of_cell? w _ (by simpa [Addr.add] using this)
theorem getD_isInt {l : List Int} (h : ∀ n ∈ l, IsInt n) (i : Nat) : IsInt (l.getD i 0) := by
  rw [List.getD]
  cases hx : l[i]? with
  | none => exact ⟨by simp, by simp⟩
  | some x => exact h x (List.mem_of_getElem? hx)
/-- What a call owns stays where another block is written. -/
theorem own_set {w : World} {base : Nat} {e : TypeId} {size : Nat} {v : Value} {n : Nat} {xs : List Value} (h : w.ownsRow base e size v n xs) {g i : Nat} (hg : g < base) (u : Value) :
    (w.setCell ⟨g, i, none⟩ u).ownsRow base e size v n xs := ownsRow_setCell_below h hg u
theorem own_slice {w : World} {base : Nat} {e : TypeId} {size : Nat} {v : Value} {n : Nat} {xs : List Value} (h : w.ownsRow base e size v n xs) : ∃ a l c, v = .slice a l c := by
  rcases h.2 with ⟨rfl, _⟩ | ⟨g, cap, cur, rfl, _⟩
  · exact ⟨_, _, _, rfl⟩
  · exact ⟨_, _, _, rfl⟩
/-- Text of an owned row of bytes. -/
theorem conv_own {P : Program} {w : World} {src dst e : TypeId} (hs : P.underlying src = some (.slice e)) (he : P.underlying e = some (.int .u8)) (hd : P.underlying dst = some .string)
    {base n : Nat} {v : Value} {l : List UInt8} (h : w.ownsRow base e 1 v n (Lib.strCells ⟨l.toArray⟩)) :
    (convert src dst v).run P w = .ok (.string ⟨l.toArray⟩) w := by
  have hl : l.length = n := by have := h.1; rw [Lib.strCells_length, Nat.mul_one] at this; exact this
  rcases h.2 with ⟨rfl, h0⟩ | ⟨g, cap, cur, rfl, _, hg, hnc, _, hcs, ht⟩
  · have : l = [] := List.eq_nil_of_length_eq_zero (by omega)
    subst this
    exact run_convert_bytes_nil w src e hs he 0 0 dst hd
  · rw [← nums_bytes]
    refine run_convert_bytes_arg w src e hs he g 0 n cap (l.map fun b => (b.toNat : Int)) (by simpa using hl) (fun i hi => ?_) dst hd
    have hc := h.cells (g := g) rfl i (.int .u8 (l[i]'(by omega)).toNat) (by simp [Lib.strCells, show i < l.length from by omega])
    have ha : (⟨g, 0, none⟩ : Addr).add i = ⟨g, 0 + i, none⟩ := by unfold Addr.add; split <;> simp_all
    rw [ha] at hc
    rw [hc]
    simp [List.getD, show i < l.length from by omega]
/-- An owned row of ints reads as they. -/
theorem row_own {w : World} {base : Nat} {e : TypeId} {a : Option Addr} {n cap : Nat} {l : List Int} (h : w.ownsRow base e 1 (.slice a n cap) n (l.map (Value.int .i64))) : Row w w.heap.size a n l := by
  have hl : l.length = n := by have := h.1; simpa using this
  refine ⟨hl, fun hn => ?_⟩
  rcases h.2 with ⟨hv, h0⟩ | ⟨g, c, cur, hv, _, hg, _⟩
  · omega
  · injection hv with hv
    subst hv
    refine ⟨g, 0, rfl, (Array.getElem?_eq_some_iff.1 hg).1, fun i hi => ?_⟩
    have hc := h.cells (g := g) rfl i (.int .i64 (l[i]'(by omega))) (by simp [show i < l.length from by omega])
    have ha : (⟨g, 0, none⟩ : Addr).add i = ⟨g, 0 + i, none⟩ := by unfold Addr.add; split <;> simp_all
    rw [ha] at hc
    rw [hc]
    simp [List.getD, show i < l.length from by omega]
end Go.Proofs.YtghljhohbhkdeaaDoor
