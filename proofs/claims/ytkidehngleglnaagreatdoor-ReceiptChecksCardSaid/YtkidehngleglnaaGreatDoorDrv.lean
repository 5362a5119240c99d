/- Plain mathematics: what a key is for, laid out; keys and rows of bytes made of a key. No program is reached here; no conditions but those that each lemma names. -/
import Derived.Test.YtkidehngleglnaaGreatDoorHmac
import Derived.Test.YtkidehngleglnaaGreatDoorLOct
namespace Go.Proofs.YtkidehngleglnaaGreatDoor
/-- Numbers, eight bytes each. -/
def nums8 : List Int → List UInt8
  | [] => []
  | n :: l => be 8 n.toNat ++ nums8 l
/-- A label and numbers that can be said. -/
def saidOk (l : List UInt8) (c : List Int) : Prop := 1 ≤ l.length ∧ l.length ≤ 16 ∧ c.length ≤ 8 ∧ ∀ n ∈ c, (0 : Int) ≤ n
instance (l : List UInt8) (c : List Int) : Decidable (saidOk l c) := inferInstanceAs (Decidable (_ ∧ _ ∧ _ ∧ ∀ n ∈ c, (0 : Int) ≤ n))
def saidOf (l : List UInt8) (c : List Int) : List UInt8 := be 4 l.length ++ (l ++ UInt8.ofNat c.length :: nums8 c)
/-- What Said answers: the bytes and the error's number. -/
def said (l : List UInt8) (c : List Int) : List UInt8 × Int := if saidOk l c then (saidOf l c, 0) else ([], 2)
/-- What Key answers. -/
def keyFor (k l : List UInt8) (c : List Int) : List UInt8 × Int := if saidOk l c then (macOf k (saidOf l c), 0) else ([], 2)
theorem said_good {l : List UInt8} {c : List Int} (h : saidOk l c) : said l c = (saidOf l c, 0) := if_pos h
theorem said_bad {l : List UInt8} {c : List Int} (h : ¬ saidOk l c) : said l c = ([], 2) := if_neg h
theorem key_good {k l : List UInt8} {c : List Int} (h : saidOk l c) : keyFor k l c = (macOf k (saidOf l c), 0) := if_pos h
theorem key_bad {k l : List UInt8} {c : List Int} (h : ¬ saidOk l c) : keyFor k l c = ([], 2) := if_neg h
theorem nums8_length : ∀ c : List Int, (nums8 c).length = 8 * c.length
  | [] => rfl
  | n :: l => by rw [nums8, List.length_append, be_length, nums8_length l, List.length_cons]; omega
theorem nums8_append : ∀ c d : List Int, nums8 (c ++ d) = nums8 c ++ nums8 d
  | [], _ => rfl
  | n :: l, d => by rw [List.cons_append, nums8, nums8, nums8_append l d, List.append_assoc]
theorem saidOf_length (l : List UInt8) (c : List Int) : (saidOf l c).length = 5 + l.length + 8 * c.length := by
  rw [saidOf, List.length_append, List.length_append, List.length_cons, be_length, nums8_length]; omega
theorem said_le (l : List UInt8) (c : List Int) (h : saidOk l c) : (saidOf l c).length ≤ 85 := by
  obtain ⟨_, h2, h3, _⟩ := h
  rw [saidOf_length]; omega
/-- A number of a Go int in eight bytes. -/
theorem put8 (n : Int) (h : n ≤ 9223372036854775807) : put n 8 = if 0 ≤ n then (be 8 n.toNat, 0) else ([], 2) := by
  by_cases h0 : 0 ≤ n
  · rw [if_pos h0, put_good n 8 (by omega) (by omega) h0 (by simp only [Int.reduceToNat, Int.reducePow]; omega)]
    rfl
  · rw [if_neg h0, put_bad n 8 (by omega)]
theorem put1 (n : Nat) (h : n ≤ 8) : put n 1 = ([UInt8.ofNat n], 0) := by
  rw [put_good _ _ (by omega) (by omega) (by omega) (by simp only [Int.reduceToNat, Int.reducePow]; omega)]
  rw [Int.toNat_natCast]
  simp [be]
theorem be8_inj {a b : Nat} (ha : a < 18446744073709551616) (hb : b < 18446744073709551616) (h : be 8 a = be 8 b) : a = b := by
  have h2 : num (be 8 a) = num (be 8 b) := by rw [h]
  rw [num_be, num_be, Nat.mod_eq_of_lt (by simp only [Nat.reducePow]; omega), Nat.mod_eq_of_lt (by simp only [Nat.reducePow]; omega)] at h2
  exact h2
/-- Numbers of Go ints, none below 0, that have the same bytes, are the same. -/
theorem nums8_inj : ∀ {c d : List Int}, (∀ n ∈ c, 0 ≤ n ∧ n ≤ 9223372036854775807) → (∀ n ∈ d, 0 ≤ n ∧ n ≤ 9223372036854775807) → nums8 c = nums8 d → c = d
  | [], [], _, _, _ => rfl
  | [], _ :: _, _, _, h => by have := congrArg List.length h; rw [nums8_length, nums8_length, List.length_cons, List.length_nil] at this; omega
  | _ :: _, [], _, _, h => by have := congrArg List.length h; rw [nums8_length, nums8_length, List.length_cons, List.length_nil] at this; omega
  | x :: c, y :: d, hc, hd, h => by
    rw [nums8, nums8] at h
    obtain ⟨h1, h2⟩ := List.append_inj h (by rw [be_length, be_length])
    have hx := hc x (by simp)
    have hy := hd y (by simp)
    have := be8_inj (by omega) (by omega) h1
    rw [nums8_inj (fun n hn => hc n (by simp [hn])) (fun n hn => hd n (by simp [hn])) h2, show x = y from by omega]
/-- What is said is said of no other label or numbers, and begins nothing else that is said. -/
theorem said_begins {a b : List UInt8} {c d : List Int} {r : List UInt8} (ha : saidOk a c) (hb : saidOk b d) (hc : ∀ n ∈ c, n ≤ 9223372036854775807) (hd : ∀ n ∈ d, n ≤ 9223372036854775807)
    (h : saidOf a c ++ r = saidOf b d) : a = b ∧ c = d := by
  obtain ⟨a1, a2, a3, a4⟩ := ha
  obtain ⟨b1, b2, b3, b4⟩ := hb
  rw [saidOf, saidOf, List.append_assoc] at h
  obtain ⟨h1, h2⟩ := List.append_inj h (by rw [be_length, be_length])
  have hl : a.length = b.length := by
    have h3 : num (be 4 a.length) = num (be 4 b.length) := by rw [h1]
    rw [num_be, num_be, Nat.mod_eq_of_lt (by simp only [Nat.reducePow]; omega), Nat.mod_eq_of_lt (by simp only [Nat.reducePow]; omega)] at h3
    exact h3
  rw [List.append_assoc] at h2
  obtain ⟨h4, h5⟩ := List.append_inj h2 hl
  rw [List.cons_append, List.cons.injEq] at h5
  obtain ⟨h6, h7⟩ := h5
  have hn : c.length = d.length := by
    have h8 : (UInt8.ofNat c.length).toNat = (UInt8.ofNat d.length).toNat := by rw [h6]
    rw [UInt8.toNat_ofNat', UInt8.toNat_ofNat'] at h8
    omega
  have h9 : nums8 c = nums8 d := (List.append_inj (t₁ := r) (t₂ := []) (by rw [h7, List.append_nil]) (by rw [nums8_length, nums8_length, hn])).1
  exact ⟨h4, nums8_inj (fun n hn => ⟨a4 n hn, hc n hn⟩) (fun n hn => ⟨b4 n hn, hd n hn⟩) h9⟩
theorem said_apart {a b : List UInt8} {c d : List Int} (ha : saidOk a c) (hb : saidOk b d) (hc : ∀ n ∈ c, n ≤ 9223372036854775807) (hd : ∀ n ∈ d, n ≤ 9223372036854775807)
    (h : (saidOf a c).take (min (saidOf a c).length (saidOf b d).length) = (saidOf b d).take (min (saidOf a c).length (saidOf b d).length)) : a = b ∧ c = d := by
  rcases Nat.le_total (saidOf a c).length (saidOf b d).length with hle | hle
  · rw [Nat.min_eq_left hle, List.take_of_length_le (Nat.le_refl _)] at h
    refine said_begins (r := (saidOf b d).drop (saidOf a c).length) ha hb hc hd ?_
    conv => lhs; rw [h]
    rw [List.length_take, Nat.min_eq_left hle, List.take_append_drop]
  · rw [Nat.min_eq_right hle, List.take_of_length_le (l := saidOf b d) (Nat.le_refl _)] at h
    have := said_begins (r := (saidOf a c).drop (saidOf b d).length) hb ha hd hc (by
      conv => lhs; rw [← h]
      rw [List.length_take, Nat.min_eq_left hle, List.take_append_drop])
    exact ⟨this.1.symm, this.2.symm⟩
/-- The dpieces: each the tag of the one ahead, what is said, and its number. -/
def dpiece (k s : List UInt8) : Nat → List UInt8
  | 0 => []
  | i + 1 => macOf k (dpiece k s i ++ (s ++ [UInt8.ofNat (i + 1)]))
/-- The first 'j' dpieces, one behind the other. -/
def dpieces (k s : List UInt8) : Nat → List UInt8
  | 0 => []
  | j + 1 => dpieces k s j ++ dpiece k s (j + 1)
theorem dpiece_le (k s : List UInt8) : ∀ i, (dpiece k s i).length ≤ 32
  | 0 => Nat.zero_le _
  | i + 1 => by rw [dpiece, mac_length]; exact Nat.le_refl _
theorem dpiece_length (k s : List UInt8) (i : Nat) : (dpiece k s (i + 1)).length = 32 := by rw [dpiece, mac_length]
theorem dpieces_length (k s : List UInt8) : ∀ j, (dpieces k s j).length = 32 * j
  | 0 => rfl
  | j + 1 => by rw [dpieces, List.length_append, dpieces_length k s j, dpiece_length]; omega
theorem dpieces_more (k s : List UInt8) (i : Nat) : ∀ j, dpieces k s (i + j) = dpieces k s i ++ (dpieces k s (i + j)).drop (32 * i)
  | 0 => by rw [Nat.add_zero, List.drop_of_length_le (by rw [dpieces_length]; exact Nat.le_refl _), List.append_nil]
  | j + 1 => by
    rw [← Nat.add_assoc, dpieces]
    conv => lhs; rw [dpieces_more k s i j]
    rw [List.append_assoc, List.drop_append_of_le_length (by rw [dpieces_length]; omega)]
/-- What Long answers for so many bytes of what can be said. -/
def longOf (k s : List UInt8) (n : Nat) : List UInt8 := (dpieces k s ((n + 31) / 32)).take n
theorem longOf_length (k s : List UInt8) (n : Nat) : (longOf k s n).length = n := by
  rw [longOf, List.length_take, dpieces_length]; omega
/-- More dpieces than are wanted do no harm. -/
theorem take_dpieces (k s : List UInt8) (n j : Nat) (h : n ≤ 32 * j) : (dpieces k s j).take n = longOf k s n := by
  have hj : j = (n + 31) / 32 + (j - (n + 31) / 32) := by omega
  rw [longOf, hj, dpieces_more, List.take_append_of_le_length (by rw [dpieces_length]; omega)]
/-- A longer one begins with each shorter one. -/
theorem long_begins (k s : List UInt8) (n m : Nat) (h : n ≤ m) : (longOf k s m).take n = longOf k s n := by
  rw [longOf, List.take_take, Nat.min_eq_left h, take_dpieces k s n _ (by omega)]
/-- A key's block stands for it. -/
theorem block_block (k : List UInt8) : keyBlock (keyBlock k) = keyBlock k := by
  have h := keyBlock_length k
  have h1 : keyHead (keyBlock k) = keyBlock k := if_neg (by omega)
  conv => lhs; rw [keyBlock, h1, h]
  simp
theorem mac_key (k m : List UInt8) : macOf (keyBlock k) m = macOf k m := mac_block m (block_block k)
/-- What Long answers: the bytes and the error's number. -/
def longFor (k l : List UInt8) (n : Int) : List UInt8 × Int := if 0 ≤ n ∧ n ≤ 8160 ∧ saidOk l [] then (longOf k (saidOf l []) n.toNat, 0) else ([], 2)
theorem long_bad {k l : List UInt8} {n : Int} (h : ¬ (0 ≤ n ∧ n ≤ 8160 ∧ saidOk l [])) : longFor k l n = ([], 2) := if_neg h
theorem long_good {k l : List UInt8} {n : Nat} (h1 : n ≤ 8160) (h2 : saidOk l []) : longFor k l n = (longOf k (saidOf l []) n, 0) := if_pos ⟨by omega, by omega, h2⟩
/-- octet's rows, one further. -/
theorem packTo_cons (a b : Int) (ws ls : List Int) : ∀ i, packTo (a :: ws) (b :: ls) (i + 1) = (put b a).1 ++ packTo ws ls i
  | 0 => by simp [packTo]
  | i + 1 => by
    rw [packTo, packTo_cons a b ws ls i, packTo, List.append_assoc]
    rfl
theorem packTo_eights (m : Nat) (c : List Int) (hc : ∀ n ∈ c, 0 ≤ n ∧ n ≤ 9223372036854775807) : ∀ i, i ≤ c.length → i ≤ m → packTo (List.replicate m 8) c i = nums8 (c.take i)
  | 0, _, _ => rfl
  | i + 1, h, hm => by
    have hi : i < c.length := by omega
    have hx := hc (c[i]'hi) (List.getElem_mem hi)
    rw [packTo, packTo_eights m c hc i (by omega) (by omega), List.take_succ_eq_append_getElem hi, nums8_append]
    have e1 : c.getD i 0 = c[i]'hi := by simp [List.getD, hi]
    have e2 : (List.replicate m (8 : Int)).getD i 0 = 8 := by simp [List.getD, show i < m from by omega]
    rw [e1, e2, put8 _ hx.2, if_pos hx.1]
    simp [nums8]
/-- What octet's Pack answers of a count and numbers behind it. -/
theorem pack_said (c : List Int) (h8 : c.length ≤ 8) (hc : ∀ n ∈ c, n ≤ 9223372036854775807) :
    pack (1 :: List.replicate c.length 8) ((c.length : Int) :: c) = if ∀ n ∈ c, (0 : Int) ≤ n then (UInt8.ofNat c.length :: nums8 c, 0) else ([], 2) := by
  have hstep : ∀ j, j < c.length → (put (((c.length : Int) :: c).getD (j + 1) 0) ((1 :: List.replicate c.length (8 : Int)).getD (j + 1) 0)) = if 0 ≤ c.getD j 0 then (be 8 (c.getD j 0).toNat, 0) else ([], 2) := by
    intro j hj
    have e1 : ((c.length : Int) :: c).getD (j + 1) 0 = c.getD j 0 := by simp [List.getD]
    have e2 : (1 :: List.replicate c.length (8 : Int)).getD (j + 1) 0 = 8 := by simp [List.getD, hj]
    rw [e1, e2]
    refine put8 _ ?_
    have : c.getD j 0 = c[j]'hj := by simp [List.getD, hj]
    rw [this]
    exact hc _ (List.getElem_mem hj)
  by_cases h : ∀ n ∈ c, (0 : Int) ≤ n
  · rw [if_pos h, pack, if_pos]
    · rw [List.length_cons, packTo_cons, packTo_eights c.length c (fun n hn => ⟨h n hn, hc n hn⟩) c.length (Nat.le_refl _) (Nat.le_refl _), List.take_of_length_le (Nat.le_refl _), put1 _ h8]
      rfl
    · refine ⟨by simp, fun j hj => ?_⟩
      cases j with
      | zero => show (put (c.length : Int) 1).2 = 0; rw [put1 _ h8]
      | succ j =>
        have hj' : j < c.length := by rw [List.length_cons] at hj; omega
        rw [hstep j hj', if_pos]
        have : c.getD j 0 = c[j]'hj' := by simp [List.getD, hj']
        rw [this]
        exact h _ (List.getElem_mem hj')
  · rw [if_neg h, pack, if_neg]
    rintro ⟨_, hall⟩
    apply h
    intro n hn
    obtain ⟨j, hj, rfl⟩ := List.getElem_of_mem hn
    have h1 := hall (j + 1) (by rw [List.length_cons]; omega)
    rw [hstep j hj] at h1
    have : c.getD j 0 = c[j]'hj := by simp [List.getD, hj]
    rw [this] at h1
    by_cases h2 : 0 ≤ c[j]
    · exact h2
    · rw [if_neg h2] at h1; simp at h1
/-- The document's example. -/
theorem said_a : saidOf [0x61] [1] = [0, 0, 0, 1, 0x61, 1, 0, 0, 0, 0, 0, 0, 0, 1] := by decide +kernel
end Go.Proofs.YtkidehngleglnaaGreatDoor
