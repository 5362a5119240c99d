/- The mathematics of aes: products of bytes, the inverse, the stand-ins, over plain bytes and numbers. No conditions but those that each lemma names. -/
import Derived.Lib.Hide
namespace Go.Proofs.Ytjlepjnfacmieaa.AesM
def dbl (b : UInt8) : UInt8 := (b <<< 1) ^^^ ((27 : UInt8) * (b >>> 7))
theorem xlc (a b c : UInt8) : a ^^^ (b ^^^ c) = b ^^^ (a ^^^ c) := by rw [← UInt8.xor_assoc, UInt8.xor_comm a b, UInt8.xor_assoc]
theorem xor_and1 (x y : UInt8) : (x ^^^ y) &&& 1 = (x &&& 1) ^^^ (y &&& 1) := by
  apply UInt8.eq_of_toBitVec_eq
  simp only [UInt8.toBitVec_and, UInt8.toBitVec_xor]
  ext i hi
  simp [Bool.and_xor_distrib_right]
def sel (a b : UInt8) (i : Nat) : UInt8 := a * ((b >>> UInt8.ofNat i) &&& 1)
def dbls : Nat → UInt8 → UInt8
  | 0, a => a
  | i + 1, a => dbl (dbls i a)
def mulTo (a b : UInt8) : Nat → UInt8
  | 0 => 0
  | i + 1 => mulTo a b i ^^^ sel (dbls i a) b i
def mulB (a b : UInt8) : UInt8 := mulTo a b 8
theorem byte_all {p : UInt8 → Prop} (h : ∀ n, n < 256 → p (UInt8.ofNat n)) (b : UInt8) : p b := by
  have := h b.toNat b.toNat_lt
  rwa [UInt8.ofNat_toNat] at this
theorem bit01 (b : UInt8) (k : UInt8) : ((b >>> k) &&& 1) = 0 ∨ ((b >>> k) &&& 1) = 1 := by
  generalize b >>> k = x
  revert x
  exact byte_all (by decide +kernel)
theorem sel_xor_r (a b c : UInt8) (i : Nat) : sel a (b ^^^ c) i = sel a b i ^^^ sel a c i := by
  unfold sel
  rw [UInt8.shiftRight_xor, xor_and1]
  rcases bit01 b (UInt8.ofNat i) with h | h <;> rcases bit01 c (UInt8.ofNat i) with k | k <;> rw [h, k] <;> simp
theorem sel_xor_l (a a' b : UInt8) (i : Nat) : sel (a ^^^ a') b i = sel a b i ^^^ sel a' b i := by
  unfold sel
  rcases bit01 b (UInt8.ofNat i) with h | h <;> rw [h] <;> simp
theorem top01 (b : UInt8) : b >>> 7 = 0 ∨ b >>> 7 = 1 := by
  revert b
  exact byte_all (by decide +kernel)
theorem dbl_xor (a b : UInt8) : dbl (a ^^^ b) = dbl a ^^^ dbl b := by
  unfold dbl
  rw [UInt8.shiftRight_xor, UInt8.shiftLeft_xor]
  rcases top01 a with h | h <;> rcases top01 b with k | k <;> rw [h, k] <;> simp [UInt8.xor_assoc, UInt8.xor_comm, xlc]
theorem dbls_xor (i : Nat) (a b : UInt8) : dbls i (a ^^^ b) = dbls i a ^^^ dbls i b := by
  induction i with
  | zero => rfl
  | succ i ih => rw [dbls, ih, dbl_xor]; rfl
theorem xor4 (a b c d : UInt8) : (a ^^^ b) ^^^ (c ^^^ d) = (a ^^^ c) ^^^ (b ^^^ d) := by
  simp only [UInt8.xor_assoc, xlc b c d]
theorem mulTo_xor_r (a b c : UInt8) (i : Nat) : mulTo a (b ^^^ c) i = mulTo a b i ^^^ mulTo a c i := by
  induction i with
  | zero => simp [mulTo]
  | succ i ih => rw [mulTo, ih, sel_xor_r, xor4]; rfl
theorem mulTo_xor_l (a a' b : UInt8) (i : Nat) : mulTo (a ^^^ a') b i = mulTo a b i ^^^ mulTo a' b i := by
  induction i with
  | zero => simp [mulTo]
  | succ i ih => rw [mulTo, ih, dbls_xor, sel_xor_l, xor4]; rfl
theorem mul_xor_r (a b c : UInt8) : mulB a (b ^^^ c) = mulB a b ^^^ mulB a c := mulTo_xor_r a b c 8
theorem mul_xor_l (a a' b : UInt8) : mulB (a ^^^ a') b = mulB a b ^^^ mulB a' b := mulTo_xor_l a a' b 8
/-- A byte is put together of its bits. -/
theorem byte_bits (a : UInt8) : a = (a &&& 1) ^^^ ((a &&& 2) ^^^ ((a &&& 4) ^^^ ((a &&& 8) ^^^ ((a &&& 16) ^^^ ((a &&& 32) ^^^ ((a &&& 64) ^^^ (a &&& 128))))))) := by
  revert a
  exact byte_all (by decide +kernel)
def bitsOf : List UInt8 := [1, 2, 4, 8, 16, 32, 64, 128]
theorem and_bit (a : UInt8) : ∀ k ∈ bitsOf, (a &&& k) = 0 ∨ (a &&& k) = k := by
  revert a
  exact byte_all (by decide +kernel)
/-- Two maps that go over sums are the same if they are so at the eight powers. -/
theorem lin_ext {f g : UInt8 → UInt8} (hf : ∀ x y, f (x ^^^ y) = f x ^^^ f y) (hg : ∀ x y, g (x ^^^ y) = g x ^^^ g y) (h : ∀ k ∈ bitsOf, f k = g k) (a : UInt8) : f a = g a := by
  have f0 : f 0 = 0 := by have := hf 0 0; simpa using this
  have g0 : g 0 = 0 := by have := hg 0 0; simpa using this
  have hk : ∀ k ∈ bitsOf, f (a &&& k) = g (a &&& k) := by
    intro k hk
    rcases and_bit a k hk with e | e
    · rw [e, f0, g0]
    · rw [e]; exact h k hk
  rw [byte_bits a]
  simp only [hf, hg]
  rw [hk 1 (by decide), hk 2 (by decide), hk 4 (by decide), hk 8 (by decide), hk 16 (by decide), hk 32 (by decide), hk 64 (by decide), hk 128 (by decide)]
theorem mul_comm' (a b : UInt8) : mulB a b = mulB b a := by
  refine lin_ext (f := fun a => mulB a b) (g := fun a => mulB b a) (fun _ _ => mul_xor_l _ _ _) (fun _ _ => mul_xor_r _ _ _) (fun k hk => ?_) a
  refine lin_ext (f := fun b => mulB k b) (g := fun b => mulB b k) (fun _ _ => mul_xor_r _ _ _) (fun _ _ => mul_xor_l _ _ _) (fun j hj => ?_) b
  revert k j
  decide +kernel
theorem mul_assoc' (a b c : UInt8) : mulB a (mulB b c) = mulB (mulB a b) c := by
  refine lin_ext (f := fun a => mulB a (mulB b c)) (g := fun a => mulB (mulB a b) c) (fun _ _ => mul_xor_l _ _ _) (fun _ _ => by simp only [mul_xor_l]) (fun k hk => ?_) a
  refine lin_ext (f := fun b => mulB k (mulB b c)) (g := fun b => mulB (mulB k b) c) (fun _ _ => by simp only [mul_xor_l, mul_xor_r]) (fun _ _ => by simp only [mul_xor_l, mul_xor_r]) (fun j hj => ?_) b
  refine lin_ext (f := fun c => mulB k (mulB j c)) (g := fun c => mulB (mulB k j) c) (fun _ _ => by simp only [mul_xor_r]) (fun _ _ => by simp only [mul_xor_r]) (fun i hi => ?_) c
  revert k j i
  decide +kernel
theorem mul_one' (a : UInt8) : mulB a 1 = a := lin_ext (f := fun a => mulB a 1) (g := fun a => a) (fun _ _ => mul_xor_l _ _ _) (fun _ _ => rfl) (by decide +kernel) a
theorem mul_zero' (a : UInt8) : mulB a 0 = 0 := lin_ext (f := fun a => mulB a 0) (g := fun _ => 0) (fun _ _ => mul_xor_l _ _ _) (fun _ _ => by simp) (by decide +kernel) a
theorem mul_2 (a : UInt8) : mulB 2 a = dbl a := lin_ext (f := fun a => mulB 2 a) (g := dbl) (fun _ _ => mul_xor_r _ _ _) dbl_xor (by decide +kernel) a
theorem mul_3 (a : UInt8) : mulB 3 a = dbl a ^^^ a := by
  rw [show (3 : UInt8) = 2 ^^^ 1 from rfl, mul_xor_l, mul_2, mul_comm' 1, mul_one']
theorem mul_of_2 (a : UInt8) : mulB a 2 = dbl a := by rw [mul_comm', mul_2]
def recL : List UInt8 := [0, 1, 141, 246, 203, 82, 123, 209, 232, 79, 41, 192, 176, 225, 229, 199, 116, 180, 170, 75, 153, 43, 96, 95, 88, 63, 253, 204, 255, 64, 238, 178,
  58, 110, 90, 241, 85, 77, 168, 201, 193, 10, 152, 21, 48, 68, 162, 194, 44, 69, 146, 108, 243, 57, 102, 66, 242, 53, 32, 111, 119, 187, 89, 25,
  29, 254, 55, 103, 45, 49, 245, 105, 167, 100, 171, 19, 84, 37, 233, 9, 237, 92, 5, 202, 76, 36, 135, 191, 24, 62, 34, 240, 81, 236, 97, 23,
  22, 94, 175, 211, 73, 166, 54, 67, 244, 71, 145, 223, 51, 147, 33, 59, 121, 183, 151, 133, 16, 181, 186, 60, 182, 112, 208, 6, 161, 250, 129, 130,
  131, 126, 127, 128, 150, 115, 190, 86, 155, 158, 149, 217, 247, 2, 185, 164, 222, 106, 50, 109, 216, 138, 132, 114, 42, 20, 159, 136, 249, 220, 137, 154,
  251, 124, 46, 195, 143, 184, 101, 72, 38, 200, 18, 74, 206, 231, 210, 98, 12, 224, 31, 239, 17, 117, 120, 113, 165, 142, 118, 61, 189, 188, 134, 87,
  11, 40, 47, 163, 218, 212, 228, 15, 169, 39, 83, 4, 27, 252, 172, 230, 122, 7, 174, 99, 197, 219, 226, 234, 148, 139, 196, 213, 157, 248, 144, 107,
  177, 13, 214, 235, 198, 14, 207, 173, 8, 78, 215, 227, 93, 80, 30, 179, 91, 35, 56, 52, 104, 70, 3, 140, 221, 156, 125, 160, 205, 26, 65, 28]

theorem rec_one : ∀ n, n < 256 → n ≠ 0 → mulB (UInt8.ofNat n) (recL.getD n 0) = 1 := by decide +kernel
/-- The number whose product with 'a' is 1; 256, if there is none. -/
def hit (a : UInt8) : Nat := if a = 0 then 256 else (recL.getD a.toNat 0).toNat
theorem mul_hit (a : UInt8) (n : Nat) (hn : n < 256) : mulB a (UInt8.ofNat n) = 1 ↔ n = hit a := by
  by_cases h : a = 0
  · subst h
    rw [mul_comm', mul_zero', hit, if_pos rfl]
    exact ⟨fun h => absurd h (by decide), fun h => absurd h (by omega)⟩
  · have hne : a.toNat ≠ 0 := fun e => h (UInt8.toNat_inj.1 (by simpa using e))
    have h1 := rec_one a.toNat a.toNat_lt hne
    rw [UInt8.ofNat_toNat] at h1
    rw [hit, if_neg h]
    generalize recL.getD a.toNat 0 = c at *
    constructor
    · intro h2
      have h3 : UInt8.ofNat n = c := by
        rw [← mul_one' (UInt8.ofNat n), ← h1, mul_assoc', mul_comm' _ a, h2, mul_comm', mul_one']
      rw [← h3]
      simp [Nat.mod_eq_of_lt hn]
    · intro h2
      rw [h2, UInt8.ofNat_toNat, h1]
def rTo (a b : Nat) : Nat → Nat
  | 0 => 0
  | i + 1 => if b / 2 ^ i % 2 = 1 then rTo a b i ^^^ a * 2 ^ i else rTo a b i
def dTo (n : Nat) : Nat → Nat
  | 0 => n
  | j + 1 => if dTo n j / 2 ^ (15 - j) % 2 = 1 then dTo n j ^^^ 283 * 2 ^ (7 - j) else dTo n j
def rmul (a b : Nat) : Nat := dTo (rTo a b 8) 8
def mulN (a b : Nat) : Nat := (mulB (UInt8.ofNat a) (UInt8.ofNat b)).toNat
theorem tb (x i : Nat) : (x / 2 ^ i % 2 = 1) ↔ x.testBit i = true := by
  rw [Nat.testBit_eq_decide_div_mod_eq]; simp
theorem nxor4 (a b c d : Nat) : (a ^^^ b) ^^^ (c ^^^ d) = (a ^^^ c) ^^^ (b ^^^ d) := by
  rw [Nat.xor_assoc, Nat.xor_assoc, ← Nat.xor_assoc b, Nat.xor_comm b c, Nat.xor_assoc c]
theorem shl_xor (a b i : Nat) : (a ^^^ b) * 2 ^ i = a * 2 ^ i ^^^ b * 2 ^ i := by
  rw [← Nat.shiftLeft_eq, ← Nat.shiftLeft_eq, ← Nat.shiftLeft_eq, Nat.shiftLeft_xor_distrib]
theorem rTo_r (a b c i : Nat) : rTo a (b ^^^ c) i = rTo a b i ^^^ rTo a c i := by
  induction i with
  | zero => simp [rTo]
  | succ i ih =>
    rw [rTo, rTo, rTo, ih]
    simp only [tb, Nat.testBit_xor]
    cases b.testBit i <;> cases c.testBit i <;> simp only [Bool.xor_false, Bool.xor_true, Bool.not_false, Bool.not_true, if_true, if_false, Bool.false_eq_true]
    · rw [Nat.xor_assoc]
    · rw [Nat.xor_assoc, Nat.xor_assoc, Nat.xor_comm (rTo a c i)]
    · rw [nxor4, Nat.xor_self, Nat.xor_zero]
theorem rTo_l (a a' b i : Nat) : rTo (a ^^^ a') b i = rTo a b i ^^^ rTo a' b i := by
  induction i with
  | zero => simp [rTo]
  | succ i ih =>
    rw [rTo, rTo, rTo, ih]
    split
    · rw [shl_xor, nxor4]
    · rfl
theorem dTo_xor (x y j : Nat) : dTo (x ^^^ y) j = dTo x j ^^^ dTo y j := by
  induction j with
  | zero => rfl
  | succ j ih =>
    rw [dTo, dTo, dTo, ih]
    simp only [tb, Nat.testBit_xor]
    cases (dTo x j).testBit (15 - j) <;> cases (dTo y j).testBit (15 - j) <;> simp only [Bool.xor_false, Bool.xor_true, Bool.not_false, Bool.not_true, if_true, if_false, Bool.false_eq_true]
    · rw [Nat.xor_assoc]
    · rw [Nat.xor_assoc, Nat.xor_assoc, Nat.xor_comm (dTo y j)]
    · rw [nxor4, Nat.xor_self, Nat.xor_zero]
theorem lin_extN {f g : UInt8 → Nat} (hf : ∀ x y, f (x ^^^ y) = f x ^^^ f y) (hg : ∀ x y, g (x ^^^ y) = g x ^^^ g y) (h : ∀ k ∈ bitsOf, f k = g k) (a : UInt8) : f a = g a := by
  have f0 : f 0 = 0 := by have := hf 0 0; simpa using this
  have g0 : g 0 = 0 := by have := hg 0 0; simpa using this
  have hk : ∀ k ∈ bitsOf, f (a &&& k) = g (a &&& k) := by
    intro k hk
    rcases and_bit a k hk with e | e
    · rw [e, f0, g0]
    · rw [e]; exact h k hk
  rw [byte_bits a]
  simp only [hf, hg]
  rw [hk 1 (by decide), hk 2 (by decide), hk 4 (by decide), hk 8 (by decide), hk 16 (by decide), hk 32 (by decide), hk 64 (by decide), hk 128 (by decide)]
theorem rmul_eq (a b : UInt8) : rmul a.toNat b.toNat = (mulB a b).toNat := by
  refine lin_extN (f := fun a => rmul a.toNat b.toNat) (g := fun a => (mulB a b).toNat) (fun x y => ?_) (fun x y => ?_) (fun k hk => ?_) a
  · simp only [rmul, UInt8.toNat_xor, rTo_l, dTo_xor]
  · simp only [mul_xor_l, UInt8.toNat_xor]
  refine lin_extN (f := fun b => rmul k.toNat b.toNat) (g := fun b => (mulB k b).toNat) (fun x y => ?_) (fun x y => ?_) (fun j hj => ?_) b
  · simp only [rmul, UInt8.toNat_xor, rTo_r, dTo_xor]
  · simp only [mul_xor_r, UInt8.toNat_xor]
  revert k j
  decide +kernel
theorem rTo_lt (a b i : Nat) (ha : a < 256) (hi : i ≤ 8) : rTo a b i < 65536 := by
  induction i with
  | zero => exact (by decide : (0 : Nat) < 65536)
  | succ i ih =>
    rw [rTo]
    have h1 := ih (by omega)
    split
    · refine Nat.xor_lt_two_pow (n := 16) h1 ?_
      have h2 : 2 ^ i ≤ 2 ^ 7 := Nat.pow_le_pow_right (by decide) (by omega)
      have h3 : a * 2 ^ i ≤ 255 * 2 ^ 7 := Nat.mul_le_mul (by omega) h2
      exact Nat.lt_of_le_of_lt h3 (by decide)
    · exact h1
theorem dTo_lt (n j : Nat) (hn : n < 65536) (hj : j ≤ 8) : dTo n j < 65536 := by
  induction j with
  | zero => exact hn
  | succ j ih =>
    rw [dTo]
    have h1 := ih (by omega)
    split
    · refine Nat.xor_lt_two_pow (n := 16) h1 ?_
      have h2 : 2 ^ (7 - j) ≤ 2 ^ 7 := Nat.pow_le_pow_right (by decide) (by omega)
      have h3 : 283 * 2 ^ (7 - j) ≤ 283 * 2 ^ 7 := Nat.mul_le_mul (Nat.le_refl _) h2
      exact Nat.lt_of_le_of_lt h3 (by decide)
    · exact h1
/-- What is left of the document's stand-in: the bits, as they are added up. -/
def rbit (n i : Nat) : Nat := n / 2 ^ i % 2
def xTo (b i : Nat) : Nat → Nat
  | 0 => rbit 99 i + rbit b i
  | k + 1 => xTo b i k + rbit b ((i + (k + 4)) % 8)
def subTo (b : Nat) : Nat → Nat
  | 0 => 0
  | i + 1 => subTo b i + xTo b i 4 % 2 * 2 ^ i
/-- The byte whose product with it is 1; 0 of 0. -/
def one (a : UInt8) : Nat := (recL.getD a.toNat 0).toNat
theorem one_hit (a : UInt8) : one a = if a = 0 then 0 else hit a := by
  by_cases h : a = 0
  · subst h; decide
  · rw [if_neg h, hit, if_neg h]; rfl
theorem hit_lt (a : UInt8) (h : a ≠ 0) : hit a < 256 := by
  rw [hit, if_neg h]; exact (recL.getD a.toNat 0).toNat_lt
def pwr : Nat → UInt8
  | 0 => 1
  | i + 1 => dbl (pwr i) ^^^ pwr i
def rol (b : UInt8) (i : Nat) : UInt8 := (b <<< UInt8.ofNat (8 - i)) ||| (b >>> UInt8.ofNat i)
def sprTo (b : UInt8) : Nat → UInt8
  | 0 => b ^^^ 99
  | i + 1 => sprTo b i ^^^ rol b (i + 4)
def spr (b : UInt8) : UInt8 := sprTo b 4
def boxTo : Nat → List UInt8
  | 0 => 99 :: List.replicate 255 0
  | i + 1 => (boxTo i).set (pwr i).toNat (spr (pwr (255 - i)))
def boxL : List UInt8 := [99, 124, 119, 123, 242, 107, 111, 197, 48, 1, 103, 43, 254, 215, 171, 118, 202, 130, 201, 125, 250, 89, 71, 240, 173, 212, 162, 175, 156, 164, 114, 192,
  183, 253, 147, 38, 54, 63, 247, 204, 52, 165, 229, 241, 113, 216, 49, 21, 4, 199, 35, 195, 24, 150, 5, 154, 7, 18, 128, 226, 235, 39, 178, 117,
  9, 131, 44, 26, 27, 110, 90, 160, 82, 59, 214, 179, 41, 227, 47, 132, 83, 209, 0, 237, 32, 252, 177, 91, 106, 203, 190, 57, 74, 76, 88, 207,
  208, 239, 170, 251, 67, 77, 51, 133, 69, 249, 2, 127, 80, 60, 159, 168, 81, 163, 64, 143, 146, 157, 56, 245, 188, 182, 218, 33, 16, 255, 243, 210,
  205, 12, 19, 236, 95, 151, 68, 23, 196, 167, 126, 61, 100, 93, 25, 115, 96, 129, 79, 220, 34, 42, 144, 136, 70, 238, 184, 20, 222, 94, 11, 219,
  224, 50, 58, 10, 73, 6, 36, 92, 194, 211, 172, 98, 145, 149, 228, 121, 231, 200, 55, 109, 141, 213, 78, 169, 108, 86, 244, 234, 101, 122, 174, 8,
  186, 120, 37, 46, 28, 166, 180, 198, 232, 221, 116, 31, 75, 189, 139, 138, 112, 62, 181, 102, 72, 3, 246, 14, 97, 53, 87, 185, 134, 193, 29, 158,
  225, 248, 152, 17, 105, 217, 142, 148, 155, 30, 135, 233, 206, 85, 40, 223, 140, 161, 137, 13, 191, 230, 66, 104, 65, 153, 45, 15, 176, 84, 187, 22]
theorem boxTo_all : boxTo 256 = boxL := by decide +kernel
def aboutTo (t : List UInt8) : Nat → List UInt8
  | 0 => List.replicate 256 0
  | i + 1 => (aboutTo t i).set (t.getD i 0).toNat (UInt8.ofNat i)
def invL : List UInt8 := aboutTo boxL 256
theorem inv_box (a : UInt8) : invL.getD (boxL.getD a.toNat 0).toNat 0 = a := by
  revert a
  exact byte_all (by decide +kernel)
theorem box_inv (a : UInt8) : boxL.getD (invL.getD a.toNat 0).toNat 0 = a := by
  revert a
  exact byte_all (by decide +kernel)
theorem sub_one : ∀ n, n < 256 → subTo (one (UInt8.ofNat n)) 8 = (boxL.getD n 0).toNat := by decide +kernel
theorem boxL_len : boxL.length = 256 := by decide +kernel
end Go.Proofs.Ytjlepjnfacmieaa.AesM
