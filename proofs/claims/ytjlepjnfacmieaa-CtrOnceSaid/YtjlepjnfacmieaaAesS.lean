/- The mathematics of aes: what is done with a block's bytes, the key's words, and that decrypting leads back. No conditions but those that each lemma names. -/
import Derived.Test.YtjlepjnfacmieaaAesM
namespace Go.Proofs.Ytjlepjnfacmieaa.AesM
/-- Sixteen bytes, each by its place. -/
def fillL (f : Nat → UInt8) : List UInt8 := (List.range 16).map f
theorem fillL_length (f : Nat → UInt8) : (fillL f).length = 16 := by simp [fillL]
theorem fillL_getD (f : Nat → UInt8) (i : Nat) (h : i < 16) : (fillL f).getD i 0 = f i := by
  simp [fillL, List.getD, h]
theorem fillL_ext {f g : Nat → UInt8} (h : ∀ i, i < 16 → f i = g i) : fillL f = fillL g := by
  unfold fillL
  exact List.map_congr_left fun i hi => h i (List.mem_range.1 hi)
theorem fillL_id (s : List UInt8) (h : s.length = 16) : fillL (fun i => s.getD i 0) = s := by
  apply List.ext_getElem
  · rw [fillL_length, h]
  · intro i h1 h2
    simp [fillL, List.getD, h2]
def addL (s w : List UInt8) (r : Nat) : List UInt8 := fillL fun i => s.getD i 0 ^^^ w.getD (16 * r + i) 0
def subL (t s : List UInt8) : List UInt8 := fillL fun i => t.getD (s.getD i 0).toNat 0
def turnL (k : Nat) (s : List UInt8) : List UInt8 := fillL fun i => s.getD ((i + 4 * (i % 4) * k) % 16) 0
/-- What a column becomes. -/
def col (a b c d : UInt8) : List UInt8 := [a ^^^ (a ^^^ b ^^^ c ^^^ d ^^^ dbl (a ^^^ b)), b ^^^ (a ^^^ b ^^^ c ^^^ d ^^^ dbl (b ^^^ c)), c ^^^ (a ^^^ b ^^^ c ^^^ d ^^^ dbl (c ^^^ d)), d ^^^ (a ^^^ b ^^^ c ^^^ d ^^^ dbl (d ^^^ a))]
def colAt (s : List UInt8) (j : Nat) : List UInt8 := col (s.getD (4 * j) 0) (s.getD (4 * j + 1) 0) (s.getD (4 * j + 2) 0) (s.getD (4 * j + 3) 0)
/-- The first 'j' columns are what they become. -/
def mixTo (s : List UInt8) (j : Nat) : List UInt8 := (List.range j).flatMap (colAt s) ++ s.drop (4 * j)
def mixL (s : List UInt8) : List UInt8 := mixTo s 4
def rnd (w t : List UInt8) (r : Nat) (s : List UInt8) : List UInt8 := addL (if r < 9 then mixL (turnL 1 (subL t s)) else turnL 1 (subL t s)) w (r + 1)
def forthTo (w t s : List UInt8) : Nat → List UInt8
  | 0 => addL s w 0
  | j + 1 => rnd w t j (forthTo w t s j)
def forthL (w t s : List UInt8) : List UInt8 := forthTo w t s 10
def mix3 (s : List UInt8) : List UInt8 := mixL (mixL (mixL s))
def brnd (w t : List UInt8) (r : Nat) (s : List UInt8) : List UInt8 := subL t (turnL 3 (if 0 < r then mix3 (addL s w (10 - r)) else addL s w (10 - r)))
def backTo (w t s : List UInt8) : Nat → List UInt8
  | 0 => s
  | j + 1 => brnd w t j (backTo w t s j)
def backL (w t s : List UInt8) : List UInt8 := addL (backTo w t s 10) w 0
theorem addL_length (s w : List UInt8) (r : Nat) : (addL s w r).length = 16 := fillL_length _
theorem subL_length (t s : List UInt8) : (subL t s).length = 16 := fillL_length _
theorem turnL_length (k : Nat) (s : List UInt8) : (turnL k s).length = 16 := fillL_length _
theorem col_length (a b c d : UInt8) : (col a b c d).length = 4 := rfl
theorem mixTo_length (s : List UInt8) (j : Nat) (h : s.length = 16) (hj : j ≤ 4) : (mixTo s j).length = 16 := by
  have : ∀ k, ((List.range k).flatMap (colAt s)).length = 4 * k := by
    intro k
    induction k with
    | zero => rfl
    | succ k ih => rw [List.range_succ, List.flatMap_append, List.length_append, ih]; simp [colAt, col]; omega
  rw [mixTo, List.length_append, this, List.length_drop]; omega
theorem mixL_length (s : List UInt8) (h : s.length = 16) : (mixL s).length = 16 := mixTo_length s 4 h (Nat.le_refl _)
theorem mix3_length (s : List UInt8) (h : s.length = 16) : (mix3 s).length = 16 := mixL_length _ (mixL_length _ (mixL_length _ h))
theorem addL_addL (s w : List UInt8) (r : Nat) (h : s.length = 16) : addL (addL s w r) w r = s := by
  rw [addL, ← fillL_id s h]
  refine fillL_ext fun i hi => ?_
  rw [fillL_id s h, addL, fillL_getD _ _ hi, UInt8.xor_assoc, UInt8.xor_self, UInt8.xor_zero]
theorem subL_subL (t u s : List UInt8) (h : s.length = 16) (htu : ∀ a : UInt8, u.getD (t.getD a.toNat 0).toNat 0 = a) : subL u (subL t s) = s := by
  rw [subL, ← fillL_id s h]
  refine fillL_ext fun i hi => ?_
  rw [fillL_id s h, subL, fillL_getD _ _ hi, htu]
theorem turn_idx : ∀ i, i < 16 → (((i + 4 * (i % 4) * 3) % 16 + 4 * ((i + 4 * (i % 4) * 3) % 16 % 4) * 1) % 16 = i ∧ ((i + 4 * (i % 4) * 1) % 16 + 4 * ((i + 4 * (i % 4) * 1) % 16 % 4) * 3) % 16 = i) := by decide
theorem turn31 (s : List UInt8) (h : s.length = 16) : turnL 3 (turnL 1 s) = s := by
  rw [turnL, ← fillL_id s h]
  refine fillL_ext fun i hi => ?_
  rw [fillL_id s h, turnL, fillL_getD _ _ (Nat.mod_lt _ (by omega)), (turn_idx i hi).1]
theorem turn13 (s : List UInt8) (h : s.length = 16) : turnL 1 (turnL 3 s) = s := by
  rw [turnL, ← fillL_id s h]
  refine fillL_ext fun i hi => ?_
  rw [fillL_id s h, turnL, fillL_getD _ _ (Nat.mod_lt _ (by omega)), (turn_idx i hi).2]
/-- A column, four times what it becomes. -/
def col4 (x : UInt8 × UInt8 × UInt8 × UInt8) : UInt8 × UInt8 × UInt8 × UInt8 :=
  (x.1 ^^^ (x.1 ^^^ x.2.1 ^^^ x.2.2.1 ^^^ x.2.2.2 ^^^ dbl (x.1 ^^^ x.2.1)), x.2.1 ^^^ (x.1 ^^^ x.2.1 ^^^ x.2.2.1 ^^^ x.2.2.2 ^^^ dbl (x.2.1 ^^^ x.2.2.1)),
   x.2.2.1 ^^^ (x.1 ^^^ x.2.1 ^^^ x.2.2.1 ^^^ x.2.2.2 ^^^ dbl (x.2.2.1 ^^^ x.2.2.2)), x.2.2.2 ^^^ (x.1 ^^^ x.2.1 ^^^ x.2.2.1 ^^^ x.2.2.2 ^^^ dbl (x.2.2.2 ^^^ x.1)))
def plus (x y : UInt8 × UInt8 × UInt8 × UInt8) : UInt8 × UInt8 × UInt8 × UInt8 := (x.1 ^^^ y.1, x.2.1 ^^^ y.2.1, x.2.2.1 ^^^ y.2.2.1, x.2.2.2 ^^^ y.2.2.2)
theorem col4_plus (x y : UInt8 × UInt8 × UInt8 × UInt8) : col4 (plus x y) = plus (col4 x) (col4 y) := by
  obtain ⟨a, b, c, d⟩ := x
  obtain ⟨e, f, g, h⟩ := y
  simp only [col4, plus, xor4 _ _ _ _, dbl_xor]
def col44 (x : UInt8 × UInt8 × UInt8 × UInt8) : UInt8 × UInt8 × UInt8 × UInt8 := col4 (col4 (col4 (col4 x)))
theorem col44_plus (x y : UInt8 × UInt8 × UInt8 × UInt8) : col44 (plus x y) = plus (col44 x) (col44 y) := by
  simp only [col44, col4_plus]
theorem col44_a (a : UInt8) : col44 (a, 0, 0, 0) = (a, 0, 0, 0) := by revert a; exact byte_all (by decide +kernel)
theorem col44_b (a : UInt8) : col44 (0, a, 0, 0) = (0, a, 0, 0) := by revert a; exact byte_all (by decide +kernel)
theorem col44_c (a : UInt8) : col44 (0, 0, a, 0) = (0, 0, a, 0) := by revert a; exact byte_all (by decide +kernel)
theorem col44_d (a : UInt8) : col44 (0, 0, 0, a) = (0, 0, 0, a) := by revert a; exact byte_all (by decide +kernel)
theorem col44_id (x : UInt8 × UInt8 × UInt8 × UInt8) : col44 x = x := by
  obtain ⟨a, b, c, d⟩ := x
  have h : (a, b, c, d) = plus (plus (a, 0, 0, 0) (0, b, 0, 0)) (plus (0, 0, c, 0) (0, 0, 0, d)) := by simp [plus]
  rw [h, col44_plus, col44_plus, col44_plus, col44_a, col44_b, col44_c, col44_d]
/-- A block's columns. -/
def quad (s : List UInt8) (j : Nat) : UInt8 × UInt8 × UInt8 × UInt8 := (s.getD (4 * j) 0, s.getD (4 * j + 1) 0, s.getD (4 * j + 2) 0, s.getD (4 * j + 3) 0)
def lay (x : UInt8 × UInt8 × UInt8 × UInt8) : List UInt8 := [x.1, x.2.1, x.2.2.1, x.2.2.2]
theorem mixL_four (s : List UInt8) (h : s.length = 16) : mixL s = lay (col4 (quad s 0)) ++ (lay (col4 (quad s 1)) ++ (lay (col4 (quad s 2)) ++ lay (col4 (quad s 3)))) := by
  rw [mixL, mixTo, List.drop_of_length_le (by omega)]
  rfl
theorem quad_four (x y z u : UInt8 × UInt8 × UInt8 × UInt8) : quad (lay x ++ (lay y ++ (lay z ++ lay u))) 0 = x ∧ quad (lay x ++ (lay y ++ (lay z ++ lay u))) 1 = y ∧ quad (lay x ++ (lay y ++ (lay z ++ lay u))) 2 = z ∧ quad (lay x ++ (lay y ++ (lay z ++ lay u))) 3 = u := ⟨rfl, rfl, rfl, rfl⟩
theorem mixL_lay (x y z u : UInt8 × UInt8 × UInt8 × UInt8) : mixL (lay x ++ (lay y ++ (lay z ++ lay u))) = lay (col4 x) ++ (lay (col4 y) ++ (lay (col4 z) ++ lay (col4 u))) := by
  obtain ⟨h1, h2, h3, h4⟩ := quad_four x y z u
  rw [mixL_four _ rfl, h1, h2, h3, h4]
theorem lay_quad (s : List UInt8) (h : s.length = 16) : s = lay (quad s 0) ++ (lay (quad s 1) ++ (lay (quad s 2) ++ lay (quad s 3))) := by
  match s, h with
  | [_, _, _, _, _, _, _, _, _, _, _, _, _, _, _, _], _ => rfl
theorem mix4 (s : List UInt8) (h : s.length = 16) : mixL (mix3 s) = s ∧ mix3 (mixL s) = s := by
  have h1 : mixL (mixL (mixL (mixL s))) = s := by
    rw [lay_quad s h, mixL_lay, mixL_lay, mixL_lay, mixL_lay]
    have e := fun x => col44_id x
    simp only [col44] at e
    rw [e, e, e, e]
  exact ⟨h1, h1⟩
theorem rnd_length (w t : List UInt8) (r : Nat) (s : List UInt8) : (rnd w t r s).length = 16 := addL_length _ _ _
theorem forthTo_length (w t s : List UInt8) (j : Nat) : (forthTo w t s j).length = 16 := by cases j <;> exact addL_length _ _ _
theorem backTo_length (w t s : List UInt8) (j : Nat) (h : s.length = 16) : (backTo w t s j).length = 16 := by
  cases j with
  | zero => exact h
  | succ j => exact subL_length _ _
theorem brnd_rnd (w s : List UInt8) (r : Nat) (hr : r < 10) (h : s.length = 16) : brnd w invL (9 - r) (rnd w boxL r s) = s := by
  unfold brnd rnd
  rw [show 10 - (9 - r) = r + 1 from by omega]
  by_cases h9 : r < 9
  · rw [if_pos h9, if_pos (by omega), addL_addL _ _ _ (mixL_length _ (turnL_length _ _)), (mix4 _ (turnL_length _ _)).2, turn31 _ (subL_length _ _), subL_subL _ _ _ h inv_box]
  · rw [if_neg h9, if_neg (by omega), addL_addL _ _ _ (turnL_length _ _), turn31 _ (subL_length _ _), subL_subL _ _ _ h inv_box]
theorem rnd_brnd (w s : List UInt8) (r : Nat) (hr : r < 10) (h : s.length = 16) : rnd w boxL (9 - r) (brnd w invL r s) = s := by
  unfold brnd rnd
  rw [show 9 - r + 1 = 10 - r from by omega]
  rw [subL_subL _ _ _ (turnL_length _ _) box_inv]
  by_cases h0 : 0 < r
  · rw [if_pos h0, if_pos (by omega), turn13 _ (mix3_length _ (addL_length _ _ _)), (mix4 _ (addL_length _ _ _)).1, addL_addL _ _ _ h]
  · rw [if_neg h0, if_neg (by omega), turn13 _ (addL_length _ _ _), addL_addL _ _ _ h]
/-- Decrypting leads back from encrypting. -/
theorem back_forth (w s : List UInt8) (h : s.length = 16) : backL w invL (forthL w boxL s) = s := by
  have h1 : ∀ j, j ≤ 10 → backTo w invL (forthL w boxL s) j = forthTo w boxL s (10 - j) := by
    intro j
    induction j with
    | zero => intro _; rfl
    | succ j ih =>
      intro hj
      rw [backTo, ih (by omega), show 10 - j = (9 - j) + 1 from by omega, forthTo, show j = 9 - (9 - j) from by omega, show 9 - (9 - (9 - j)) = 9 - j from by omega, brnd_rnd _ _ _ (by omega) (forthTo_length _ _ _ _), show 10 - (9 - (9 - j) + 1) = 9 - j from by omega]
  rw [backL, h1 10 (Nat.le_refl _)]
  exact addL_addL _ _ _ h
/-- Encrypting leads back from decrypting. -/
theorem forth_back (w s : List UInt8) (h : s.length = 16) : forthL w boxL (backL w invL s) = s := by
  have h1 : ∀ j, j ≤ 10 → forthTo w boxL (backL w invL s) j = backTo w invL s (10 - j) := by
    intro j
    induction j with
    | zero => intro _; exact addL_addL _ _ _ (backTo_length _ _ _ _ h)
    | succ j ih =>
      intro hj
      rw [forthTo, ih (by omega), show 10 - j = (9 - j) + 1 from by omega, backTo, show j = 9 - (9 - j) from by omega, show 9 - (9 - (9 - j)) = 9 - j from by omega, rnd_brnd _ _ _ (by omega) (backTo_length _ _ _ _ h), show 10 - (9 - (9 - j) + 1) = 9 - j from by omega]
  exact h1 10 (Nat.le_refl _)
/-- The next four bytes of the words, and what the next word of a whole four is held against. -/
def hold (t l : List UInt8) (p : UInt8) : List UInt8 :=
  if l.length % 16 = 0 then [t.getD (l.getD (l.length - 3) 0).toNat 0 ^^^ p, t.getD (l.getD (l.length - 2) 0).toNat 0, t.getD (l.getD (l.length - 1) 0).toNat 0, t.getD (l.getD (l.length - 4) 0).toNat 0]
  else [l.getD (l.length - 4) 0, l.getD (l.length - 3) 0, l.getD (l.length - 2) 0, l.getD (l.length - 1) 0]
def word (t l : List UInt8) (p : UInt8) : List UInt8 := (List.range 4).map fun i => l.getD (l.length - 16 + i) 0 ^^^ (hold t l p).getD i 0
def powTo : Nat → UInt8
  | 0 => 1
  | j + 1 => if j % 4 = 0 then dbl (powTo j) else powTo j
def expTo (t k : List UInt8) : Nat → List UInt8
  | 0 => k
  | j + 1 => expTo t k j ++ word t (expTo t k j) (powTo j)
def expL (t k : List UInt8) : List UInt8 := expTo t k 40
theorem word_length (t l : List UInt8) (p : UInt8) : (word t l p).length = 4 := by simp [word]
theorem expTo_length (t k : List UInt8) (j : Nat) (h : k.length = 16) : (expTo t k j).length = 16 + 4 * j := by
  induction j with
  | zero => rw [expTo, h]
  | succ j ih => rw [expTo, List.length_append, ih, word_length]; omega
theorem expL_length (t k : List UInt8) (h : k.length = 16) : (expL t k).length = 176 := expTo_length t k 40 h
/-- What a key makes of a block, and back. -/
def encL (k s : List UInt8) : List UInt8 := forthL (expL boxL k) boxL s
def decL (k s : List UInt8) : List UInt8 := backL (expL boxL k) invL s
theorem encL_length (k s : List UInt8) : (encL k s).length = 16 := forthTo_length _ _ _ _
theorem decL_length (k s : List UInt8) : (decL k s).length = 16 := addL_length _ _ _
theorem dec_enc (k s : List UInt8) (h : s.length = 16) : decL k (encL k s) = s := back_forth _ _ h
theorem enc_dec (k s : List UInt8) (h : s.length = 16) : encL k (decL k s) = s := forth_back _ _ h
/-- The chapter's example. -/
theorem example_ : encL [0, 1, 2, 3, 4, 5, 6, 7, 8, 9, 10, 11, 12, 13, 14, 15] [0, 17, 34, 51, 68, 85, 102, 119, 136, 153, 170, 187, 204, 221, 238, 255] = [105, 196, 224, 216, 106, 123, 4, 48, 216, 205, 183, 128, 112, 180, 197, 90] := by decide +kernel
end Go.Proofs.Ytjlepjnfacmieaa.AesM
