/- Plain mathematics: records, their bytes, and the records of bytes. No program is reached here; no conditions but those that each lemma names. -/
import Derived.Test.YteldohopagdodaaOctBack
namespace Go.Proofs.Yteldohopagdodaa.RecN
/-- A record. -/
structure Rec where
  k : Int
  ep : Int
  tm : Int
  ct : Int
  tg : Int
  un : Int
  rt : List UInt8
  nm : List UInt8
theorem same {a b : Rec} (h1 : a.k = b.k) (h2 : a.ep = b.ep) (h3 : a.tm = b.tm) (h4 : a.ct = b.ct) (h5 : a.tg = b.tg) (h6 : a.un = b.un) (h7 : a.rt = b.rt) (h8 : a.nm = b.nm) : a = b := by
  obtain ⟨_, _, _, _, _, _, _, _⟩ := a
  obtain ⟨_, _, _, _, _, _, _, _⟩ := b
  simp only at h1 h2 h3 h4 h5 h6 h7 h8
  rw [h1, h2, h3, h4, h5, h6, h7, h8]
def zero : Rec := ⟨0, 0, 0, 0, 0, 0, [], []⟩
/-- A letter, or a digit. -/
def letter (b : UInt8) : Bool := decide (97 ≤ b.toNat ∧ b.toNat ≤ 122) || decide (48 ≤ b.toNat ∧ b.toNat ≤ 57)
def isName (s : List UInt8) : Bool := decide (1 ≤ s.length ∧ s.length ≤ 16) && s.all letter
theorem name_len {s : List UInt8} (h : isName s = true) : 1 ≤ s.length ∧ s.length ≤ 16 := by
  unfold isName at h
  rw [Bool.and_eq_true, decide_eq_true_eq] at h
  exact h.1
/-- A record that may be. -/
def low (r : Rec) : Prop := 0 ≤ r.ep ∧ r.ep ≤ 4294967295 ∧ 0 ≤ r.tm ∧ r.tm ≤ 1099511627776
def aim (r : Rec) : Prop := 0 ≤ r.tg ∧ r.tg < r.ep
def due (r : Rec) : Prop := 0 ≤ r.un ∧ r.un ≤ 1099511627776
def fit1 (r : Rec) : Prop := 0 ≤ r.ct ∧ r.ct ≤ 4096 ∧ r.rt.length = 32 ∧ r.tg = 0 ∧ r.un = 0 ∧ r.nm = []
def fit2 (r : Rec) : Prop := aim r ∧ due r ∧ r.ct = 0 ∧ r.rt = [] ∧ r.nm = []
def fit3 (r : Rec) : Prop := aim r ∧ isName r.nm = true ∧ r.un = 0 ∧ r.ct = 0 ∧ r.rt = []
def fit4 (r : Rec) : Prop := isName r.nm = true ∧ r.tg = 0 ∧ r.un = 0 ∧ r.ct = 0 ∧ r.rt = []
def fit (r : Rec) : Prop := (r.k = 1 ∧ fit1 r) ∨ (r.k = 2 ∧ fit2 r) ∨ (r.k = 3 ∧ fit3 r) ∨ (r.k = 4 ∧ fit4 r) ∨ (r.k = 5 ∧ fit2 r)
def right (r : Rec) : Prop := low r ∧ fit r
instance (r : Rec) : Decidable (low r) := inferInstanceAs (Decidable (_ ∧ _ ∧ _ ∧ _))
instance (r : Rec) : Decidable (aim r) := inferInstanceAs (Decidable (_ ∧ _))
instance (r : Rec) : Decidable (due r) := inferInstanceAs (Decidable (_ ∧ _))
instance (r : Rec) : Decidable (fit1 r) := inferInstanceAs (Decidable (_ ∧ _ ∧ _ ∧ _ ∧ _ ∧ _))
instance (r : Rec) : Decidable (fit2 r) := inferInstanceAs (Decidable (_ ∧ _ ∧ _ ∧ _ ∧ _))
instance (r : Rec) : Decidable (fit3 r) := inferInstanceAs (Decidable (_ ∧ _ ∧ _ ∧ _ ∧ _))
instance (r : Rec) : Decidable (fit4 r) := inferInstanceAs (Decidable (_ ∧ _ ∧ _ ∧ _ ∧ _))
instance (r : Rec) : Decidable (fit r) := inferInstanceAs (Decidable (_ ∨ _ ∨ _ ∨ _ ∨ _))
instance (r : Rec) : Decidable (right r) := inferInstanceAs (Decidable (_ ∧ _))
/-- What bounds a record that may be. -/
theorem bounds {r : Rec} (h : right r) : (1 ≤ r.k ∧ r.k ≤ 5) ∧ (0 ≤ r.ep ∧ r.ep ≤ 4294967295) ∧ (0 ≤ r.tm ∧ r.tm ≤ 1099511627776) ∧ (0 ≤ r.ct ∧ r.ct ≤ 4096) ∧ (0 ≤ r.tg ∧ r.tg ≤ 4294967295) ∧ (0 ≤ r.un ∧ r.un ≤ 1099511627776) ∧ r.rt.length ≤ 32 ∧ r.nm.length ≤ 16 := by
  obtain ⟨⟨a1, a2, a3, a4⟩, h⟩ := h
  rcases h with ⟨hk, b1, b2, b3, b4, b5, b6⟩ | ⟨hk, ⟨b1, b2⟩, ⟨b3, b4⟩, b5, b6, b7⟩ | ⟨hk, ⟨b1, b2⟩, b3, b4, b5, b6⟩ | ⟨hk, b3, b4, b5, b6, b7⟩ | ⟨hk, ⟨b1, b2⟩, ⟨b3, b4⟩, b5, b6, b7⟩
  · rw [b6]; simp only [List.length_nil]; omega
  · rw [b6, b7]; simp only [List.length_nil]; omega
  · have := name_len b3
    rw [b6]; simp only [List.length_nil]; omega
  · have := name_len b3
    rw [b7]; simp only [List.length_nil]; omega
  · rw [b6, b7]; simp only [List.length_nil]; omega
/-- The widths, and a record's numbers. -/
def ws : List Int := [1, 4, 8, 4, 4, 8]
def nums (r : Rec) : List Int := [r.k, r.ep, r.tm, r.ct, r.tg, r.un]
theorem ok6 {r : Rec} (h : right r) : okTo ws (nums r) 6 := by
  obtain ⟨h1, h2, h3, h4, h5, h6, _⟩ := bounds h
  intro j hj
  match j, hj with
  | 0, _ => show (put r.k 1).2 = 0; rw [put_good _ _ (by omega) (by omega) (by omega) (by simp only [Int.reduceToNat, Int.reducePow]; omega)]
  | 1, _ => show (put r.ep 4).2 = 0; rw [put_good _ _ (by omega) (by omega) (by omega) (by simp only [Int.reduceToNat, Int.reducePow]; omega)]
  | 2, _ => show (put r.tm 8).2 = 0; rw [put_good _ _ (by omega) (by omega) (by omega) (by simp only [Int.reduceToNat, Int.reducePow]; omega)]
  | 3, _ => show (put r.ct 4).2 = 0; rw [put_good _ _ (by omega) (by omega) (by omega) (by simp only [Int.reduceToNat, Int.reducePow]; omega)]
  | 4, _ => show (put r.tg 4).2 = 0; rw [put_good _ _ (by omega) (by omega) (by omega) (by simp only [Int.reduceToNat, Int.reducePow]; omega)]
  | 5, _ => show (put r.un 8).2 = 0; rw [put_good _ _ (by omega) (by omega) (by omega) (by simp only [Int.reduceToNat, Int.reducePow]; omega)]
theorem nums_int {r : Rec} (h : right r) : ∀ x ∈ nums r, x ≤ 9223372036854775807 := by
  obtain ⟨h1, h2, h3, h4, h5, h6, _⟩ := bounds h
  intro x hx
  simp only [nums, List.mem_cons, List.not_mem_nil, or_false] at hx
  rcases hx with rfl | rfl | rfl | rfl | rfl | rfl <;> omega
/-- What is ahead of the two texts. -/
def head (r : Rec) : List UInt8 := packTo ws (nums r) 6
theorem pack_head {r : Rec} (h : right r) : pack ws (nums r) = (head r, 0) := by
  rw [pack, if_pos ⟨rfl, ok6 h⟩]
  rfl
theorem sum6 : sumTo ws 6 = 29 := rfl
theorem head_len {r : Rec} (h : right r) : (head r).length = 29 := by
  rw [head, packTo_sum ws (nums r) (nums_int h) 6 (ok6 h), sum6]
theorem unpack_head {r : Rec} (h : right r) : unpack ws (head r) = (nums r, 0) := unpack_pack ws (nums r) (nums_int h) rfl (ok6 h)
/-- A text behind its length. -/
def txt (l : List UInt8) : List UInt8 := be 4 l.length ++ l
theorem txt_len (l : List UInt8) : (txt l).length = 4 + l.length := by rw [txt, List.length_append, be_length]
/-- A record's bytes. -/
def bytes (r : Rec) : List UInt8 := head r ++ txt r.rt ++ txt r.nm
theorem bytes_len {r : Rec} (h : right r) : (bytes r).length = 37 + r.rt.length + r.nm.length := by
  rw [bytes, List.length_append, List.length_append, head_len h, txt_len, txt_len]; omega
/-- The parts of what may be a record's bytes. -/
def un_ (s : List UInt8) : List Int × Int := unpack ws (s.take 29)
def c1 (s : List UInt8) : List UInt8 × List UInt8 × Int := cut (s.drop 29)
def c2 (s : List UInt8) : List UInt8 × List UInt8 × Int := cut (c1 s).2.1
def got (s : List UInt8) : Rec := ⟨(un_ s).1.getD 0 0, (un_ s).1.getD 1 0, (un_ s).1.getD 2 0, (un_ s).1.getD 3 0, (un_ s).1.getD 4 0, (un_ s).1.getD 5 0, (c1 s).1, (c2 s).1⟩
def took (s : List UInt8) : Prop := 29 ≤ s.length ∧ (un_ s).2 = 0 ∧ (c1 s).2.2 = 0 ∧ (c2 s).2.2 = 0 ∧ right (got s)
instance (s : List UInt8) : Decidable (took s) := inferInstanceAs (Decidable (_ ∧ _ ∧ _ ∧ _ ∧ _))
/-- The record with whose bytes a text begins, what is behind it, and whether there is one. -/
def take_ (s : List UInt8) : Rec × List UInt8 × Bool := if took s then (got s, (c2 s).2.1, true) else (zero, [], false)
theorem take_yes {s : List UInt8} (h : took s) : take_ s = (got s, (c2 s).2.1, true) := if_pos h
theorem take_no {s : List UInt8} (h : ¬ took s) : take_ s = (zero, [], false) := if_neg h
/-- What was put is taken, whatever is behind it. -/
theorem take_bytes {r : Rec} (h : right r) (l : List UInt8) : take_ (bytes r ++ l) = (r, l, true) := by
  have hb := bounds h
  have h29 := head_len h
  have e0 : bytes r ++ l = head r ++ (be 4 r.rt.length ++ r.rt ++ (be 4 r.nm.length ++ r.nm ++ l)) := by
    rw [bytes, txt, txt]; simp only [List.append_assoc]
  have e1 : un_ (bytes r ++ l) = (nums r, 0) := by
    rw [un_, e0, List.take_append_of_le_length (by omega), List.take_of_length_le (by omega), unpack_head h]
  have e2 : c1 (bytes r ++ l) = (r.rt, be 4 r.nm.length ++ r.nm ++ l, 0) := by
    rw [c1, e0, List.drop_append_of_le_length (by omega), List.drop_of_length_le (by omega), List.nil_append, cut_text _ _ (by omega)]
  have e3 : c2 (bytes r ++ l) = (r.nm, l, 0) := by
    rw [c2, e2, cut_text _ _ (by omega)]
  have e4 : got (bytes r ++ l) = r := by
    rw [got, e1, e2, e3]; rfl
  have ht : took (bytes r ++ l) := ⟨by rw [e0, List.length_append]; omega, by rw [e1], by rw [e2], by rw [e3], by rw [e4]; exact h⟩
  rw [take_yes ht, e4, e3]
theorem cut_back {l a b : List UInt8} (h : cut l = (a, b, 0)) : txt a ++ b = l := by
  by_cases hg : l.length < 4 ∨ l.length - 4 < num (l.take 4)
  · rw [cut_bad l hg] at h
    cases h
  · have h1 : 4 ≤ l.length := by omega
    have h2 : num (l.take 4) ≤ l.length - 4 := by omega
    rw [cut_good l h1 h2] at h
    simp only [Prod.mk.injEq, and_true] at h
    obtain ⟨rfl, rfl⟩ := h
    have h3 : ((l.drop 4).take (num (l.take 4))).length = num (l.take 4) := by rw [List.length_take, List.length_drop]; omega
    have h4 : (l.take 4).length = 4 := by rw [List.length_take]; omega
    have h5 : be 4 (num (l.take 4)) = l.take 4 := by
      have := be_num (l.take 4)
      rw [h4] at this
      exact this
    rw [txt, h3, h5, List.append_assoc, List.take_append_drop, List.take_append_drop]
/-- Numbers that were taken, put again. -/
theorem pack_back (l : List UInt8) (hl : l.length = 29) (h : gotTo ws l 6) : packTo ws (numsTo ws l 6) 6 = l := by
  have key : ∀ i, i < 6 → put ((numsTo ws l 6).getD i 0) (ws.getD i 0) = (piece ws l i, 0) := by
    intro i hi
    have e : (numsTo ws l 6).getD i 0 = (get (piece ws l i)).1 := by
      match i, hi with
      | 0, _ => rfl
      | 1, _ => rfl
      | 2, _ => rfl
      | 3, _ => rfl
      | 4, _ => rfl
      | 5, _ => rfl
    have hp : ((piece ws l i).length : Int) = ws.getD i 0 := by
      match i, hi with
      | 0, _ => show (((l.drop 0).take 1).length : Int) = 1; rw [List.length_take, List.length_drop]; omega
      | 1, _ => show (((l.drop 1).take 4).length : Int) = 4; rw [List.length_take, List.length_drop]; omega
      | 2, _ => show (((l.drop 5).take 8).length : Int) = 8; rw [List.length_take, List.length_drop]; omega
      | 3, _ => show (((l.drop 13).take 4).length : Int) = 4; rw [List.length_take, List.length_drop]; omega
      | 4, _ => show (((l.drop 17).take 4).length : Int) = 4; rw [List.length_take, List.length_drop]; omega
      | 5, _ => show (((l.drop 21).take 8).length : Int) = 8; rw [List.length_take, List.length_drop]; omega
    rw [e, ← hp]
    exact put_get _ (h i hi)
  have hs : ∀ i, i ≤ 6 → packTo ws (numsTo ws l 6) i = l.take (sumTo ws i) := by
    intro i
    induction i with
    | zero => intro _; rfl
    | succ i ih =>
      intro hi
      rw [packTo, ih (by omega), key i (by omega), sumTo, List.take_add]
      rfl
  rw [hs 6 (Nat.le_refl _), sum6, List.take_of_length_le (by omega)]
/-- What was taken, put, is what was cut off. -/
theorem bytes_take {s : List UInt8} (h : took s) : bytes (got s) ++ (c2 s).2.1 = s := by
  obtain ⟨h1, h2, h3, h4, _⟩ := h
  have hl : (s.take 29).length = 29 := by rw [List.length_take]; omega
  have hu : un_ s = (numsTo ws (s.take 29) 6, 0) ∧ gotTo ws (s.take 29) 6 := by
    have hw : widthsTo ws ws.length := (by decide : ∀ j, j < 6 → 1 ≤ ws.getD j 0 ∧ ws.getD j 0 ≤ 8)
    by_cases hg : gotTo ws (s.take 29) ws.length
    · exact ⟨unpack_good ws _ hw (by rw [hl]; rfl) hg, hg⟩
    · have := unpack_bad ws (s.take 29) hw (by rw [hl]; rfl) hg
      rw [un_, this] at h2
      cases h2
  have e1 : nums (got s) = numsTo ws (s.take 29) 6 := by
    rw [got, hu.1]; rfl
  have e2 : head (got s) = s.take 29 := by
    rw [head, e1, pack_back _ hl hu.2]
  have e3 : txt (c1 s).1 ++ (c1 s).2.1 = s.drop 29 := cut_back (l := s.drop 29) (by
    show c1 s = _
    rw [← h3])
  have e4 : txt (c2 s).1 ++ (c2 s).2.1 = (c1 s).2.1 := cut_back (l := (c1 s).2.1) (by
    show c2 s = _
    rw [← h4])
  show (head (got s) ++ txt (c1 s).1 ++ txt (c2 s).1) ++ (c2 s).2.1 = s
  rw [List.append_assoc, e4, List.append_assoc, e3, e2, List.take_append_drop]
/-- Unlike records have unlike bytes, of which none begins with the other's. -/
theorem begins {a b : Rec} {x y : List UInt8} (ha : right a) (hb : right b) (h : bytes a ++ x = bytes b ++ y) : a = b := by
  have h1 := take_bytes ha x
  have h2 := take_bytes hb y
  rw [h, h2] at h1
  exact (Prod.mk.inj h1).1.symm
theorem bytes_inj {a b : Rec} (ha : right a) (hb : right b) (h : bytes a = bytes b) : a = b := begins (x := []) (y := []) ha hb (by rw [h])
theorem apart {a b : Rec} {n : Nat} (ha : right a) (hb : right b) (hn : n = min (bytes a).length (bytes b).length) (h : (bytes a).take n = (bytes b).take n) : a = b := by
  rcases Nat.le_total (bytes a).length (bytes b).length with hle | hle
  · rw [hn, Nat.min_eq_left hle, List.take_of_length_le (Nat.le_refl _)] at h
    refine begins (x := (bytes b).drop (bytes a).length) (y := []) ha hb ?_
    conv => lhs; rw [h]
    rw [List.length_take, Nat.min_eq_left hle, List.take_append_drop, List.append_nil]
  · rw [hn, Nat.min_eq_right hle, List.take_of_length_le (l := bytes b) (Nat.le_refl _)] at h
    refine begins (x := []) (y := (bytes a).drop (bytes b).length) ha hb ?_
    conv => rhs; rw [← h]
    rw [List.length_take, Nat.min_eq_left hle, List.take_append_drop, List.append_nil]
end Go.Proofs.Yteldohopagdodaa.RecN
