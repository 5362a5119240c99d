/- Plain mathematics of cell: whether five things are a cell's, its bytes, which cell a block is, which held text, of which kind a block is, what is left of a cell. No program is reached here; no conditions. -/
import Derived.Test.YteobimhibhfokaaOctBack
namespace Go.Proofs.Yteobimhibhfokaa.CelN
/-- A cell: Epoch, Slot, Lba, Gone, Cipher. -/
structure Cl where
  ep : Int
  sl : Int
  lb : Int
  gn : Bool
  ci : List UInt8
def nil_ : Cl := ⟨0, 0, 0, false, []⟩
def lim (n m : Int) : Prop := 0 ≤ n ∧ n ≤ m
instance (n m : Int) : Decidable (lim n m) := inferInstanceAs (Decidable (_ ∧ _))
/-- A cell may be. -/
def may (x : Cl) : Prop := lim x.ep 4294967295 ∧ lim x.sl 4294967295 ∧ lim x.lb 4095 ∧ x.ci.length ≤ 4000 ∧ (x.gn = false ∨ x.ci = [])
instance (x : Cl) : Decidable (may x) := inferInstanceAs (Decidable (_ ∧ _))
def check (x : Cl) : Int := if may x then 0 else 2
theorem check_yes {x : Cl} (h : may x) : check x = 0 := if_pos h
theorem check_no {x : Cl} (h : ¬ may x) : check x = 2 := if_neg h
/-- The number, and the byte, that a cell's bytes begin with. -/
def kd (g : Bool) : Int := if g then 2 else 1
def kb (g : Bool) : List UInt8 := if g then [2] else [1]
theorem kb_len (g : Bool) : (kb g).length = 1 := by cases g <;> rfl
def nums (x : Cl) : List UInt8 := kb x.gn ++ be 4 x.ep.toNat ++ be 4 x.sl.toNat ++ be 4 x.lb.toNat
/-- A text behind its length. -/
def txt (s : List UInt8) : List UInt8 := be 4 s.length ++ s
def head (x : Cl) : List UInt8 := nums x ++ txt x.ci
/-- The bytes of a cell that may be. -/
def blk (x : Cl) : List UInt8 := head x ++ List.replicate (4096 - (head x).length) 0
theorem nums_len (x : Cl) : (nums x).length = 13 := by simp [nums, be_length, kb_len]
theorem txt_len (s : List UInt8) : (txt s).length = 4 + s.length := by simp [txt, be_length]
theorem head_len (x : Cl) : (head x).length = 17 + x.ci.length := by rw [head, List.length_append, nums_len, txt_len]; omega
theorem blk_len {x : Cl} (h : x.ci.length ≤ 4000) : (blk x).length = 4096 := by
  have := head_len x
  rw [blk, List.length_append, List.length_replicate]
  omega
theorem put4 {n : Int} (h0 : 0 ≤ n) (h1 : n ≤ 4294967295) : put n 4 = (be 4 n.toNat, 0) := put_good n 4 (by omega) (by omega) h0 (by simpa using (show n < 4294967296 by omega))
theorem put1 (g : Bool) : put (kd g) 1 = (kb g, 0) := by cases g <;> decide +kernel
theorem may_nums {x : Cl} (h : may x) : put x.ep 4 = (be 4 x.ep.toNat, 0) ∧ put x.sl 4 = (be 4 x.sl.toNat, 0) ∧ put x.lb 4 = (be 4 x.lb.toNat, 0) := by
  obtain ⟨⟨h0, h1⟩, ⟨h2, h3⟩, ⟨h4, h5⟩, _⟩ := h
  exact ⟨put4 h0 h1, put4 h2 h3, put4 h4 (by omega)⟩
/-- What Pack answers of the kind and the three numbers. -/
theorem pack_may {x : Cl} (h : may x) : pack [1, 4, 4, 4] [kd x.gn, x.ep, x.sl, x.lb] = (nums x, 0) := by
  obtain ⟨p1, p2, p3⟩ := may_nums h
  have p0 := put1 x.gn
  unfold pack
  rw [if_pos ⟨rfl, fun j hj => by
    match j, hj with
    | 0, _ => simpa using congrArg Prod.snd p0
    | 1, _ => simpa using congrArg Prod.snd p1
    | 2, _ => simpa using congrArg Prod.snd p2
    | 3, _ => simpa using congrArg Prod.snd p3⟩]
  simp [packTo, p0, p1, p2, p3, nums]
/-- What Put answers. -/
def put_ (x : Cl) : List UInt8 × Int := if may x then (blk x, 0) else ([], 2)
theorem put_yes {x : Cl} (h : may x) : put_ x = (blk x, 0) := if_pos h
theorem put_no {x : Cl} (h : ¬ may x) : put_ x = ([], 2) := if_neg h
/-- The pieces of a block. -/
def r0 (s : List UInt8) : List UInt8 := s.take 1
def r1 (s : List UInt8) : List UInt8 := (s.drop 1).take 4
def r2 (s : List UInt8) : List UInt8 := (s.drop 5).take 4
def r3 (s : List UInt8) : List UInt8 := (s.drop 9).take 4
def r4 (s : List UInt8) : List UInt8 := s.drop 13
theorem r_len {s : List UInt8} (h : s.length = 4096) : (r0 s).length = 1 ∧ (r1 s).length = 4 ∧ (r2 s).length = 4 ∧ (r3 s).length = 4 ∧ (r4 s).length = 4083 := by
  simp [r0, r1, r2, r3, r4, h]
theorem get_of (l : List UInt8) (h1 : 1 ≤ l.length) (h : l.length ≤ 4) : get l = ((num l : Int), 0) := by
  have := num_lt l
  have hp : 256 ^ l.length ≤ 256 ^ 4 := Nat.pow_le_pow_right (by omega) h
  simp only [Nat.reducePow] at hp
  exact get_good l h1 (by omega) (by omega)
/-- What the pieces tell. -/
def isGone (s : List UInt8) : Bool := decide ((num (r0 s) : Int) = 2)
def rd (s : List UInt8) : Cl := ⟨num (r1 s), num (r2 s), num (r3 s), isGone s, (cut (r4 s)).1⟩
def readable (s : List UInt8) : Prop := s.length = 4096 ∧ (cut (r4 s)).2.2 = 0
instance (s : List UInt8) : Decidable (readable s) := inferInstanceAs (Decidable (_ ∧ _))
def readOf (s : List UInt8) : Cl × Int := if readable s then (rd s, 0) else (nil_, 3)
theorem read_yes {s : List UInt8} (h : readable s) : readOf s = (rd s, 0) := if_pos h
theorem read_no {s : List UInt8} (h : ¬ readable s) : readOf s = (nil_, 3) := if_neg h
theorem cut_no {l : List UInt8} (h : ¬ (cut l).2.2 = 0) : cut l = ([], [], 3) := by
  by_cases hb : l.length < 4 ∨ l.length - 4 < num (l.take 4)
  · exact cut_bad l hb
  · exact absurd (by rw [cut_good l (by omega) (by omega)]) h
/-- A block that is a cell's. -/
def good (s : List UInt8) : Prop := readable s ∧ may (rd s) ∧ blk (rd s) = s
instance (s : List UInt8) : Decidable (good s) := inferInstanceAs (Decidable (_ ∧ _))
/-- What Take answers. -/
def take (s : List UInt8) : Cl × Int := if good s then (rd s, 0) else (nil_, 3)
theorem take_yes {s : List UInt8} (h : good s) : take s = (rd s, 0) := if_pos h
theorem take_no {s : List UInt8} (h : ¬ good s) : take s = (nil_, 3) := if_neg h
/-- What is put again is the block, just where it is a cell's. -/
theorem again_good {s : List UInt8} (h : readable s) : (put_ (rd s)).1 = s ↔ good s := by
  by_cases hm : may (rd s)
  · rw [put_yes hm]; exact ⟨fun e => ⟨h, hm, e⟩, fun e => e.2.2⟩
  · rw [put_no hm]
    constructor
    · intro e
      have e' : ([] : List UInt8) = s := e
      have h1 := h.1
      rw [← e'] at h1
      simp at h1
    · intro e; exact absurd e.2.1 hm
theorem put_take {s : List UInt8} (h : good s) : put_ (rd s) = (s, 0) := by rw [put_yes h.2.1, h.2.2]
theorem nums_eq (x : Cl) : nums x = kb x.gn ++ (be 4 x.ep.toNat ++ (be 4 x.sl.toNat ++ be 4 x.lb.toNat)) := by simp only [nums, List.append_assoc]
theorem pieces (x : Cl) (r : List UInt8) : r0 (nums x ++ r) = kb x.gn ∧ r1 (nums x ++ r) = be 4 x.ep.toNat ∧ r2 (nums x ++ r) = be 4 x.sl.toNat ∧ r3 (nums x ++ r) = be 4 x.lb.toNat ∧ r4 (nums x ++ r) = r := by
  have hk := kb_len x.gn
  refine ⟨?_, ?_, ?_, ?_, ?_⟩
  · have e : nums x ++ r = kb x.gn ++ (be 4 x.ep.toNat ++ (be 4 x.sl.toNat ++ be 4 x.lb.toNat) ++ r) := by rw [nums_eq, List.append_assoc]
    unfold r0
    rw [e, List.take_left' hk]
  · have e : nums x ++ r = kb x.gn ++ (be 4 x.ep.toNat ++ (be 4 x.sl.toNat ++ be 4 x.lb.toNat ++ r)) := by rw [nums_eq]; simp only [List.append_assoc]
    unfold r1
    rw [e, List.drop_left' hk, List.take_left' (be_length _ _)]
  · have e : nums x ++ r = (kb x.gn ++ be 4 x.ep.toNat) ++ (be 4 x.sl.toNat ++ (be 4 x.lb.toNat ++ r)) := by rw [nums_eq]; simp only [List.append_assoc]
    unfold r2
    rw [e, List.drop_left' (by simp [be_length, hk]), List.take_left' (be_length _ _)]
  · have e : nums x ++ r = (kb x.gn ++ be 4 x.ep.toNat ++ be 4 x.sl.toNat) ++ (be 4 x.lb.toNat ++ r) := by rw [nums_eq]; simp only [List.append_assoc]
    unfold r3
    rw [e, List.drop_left' (by simp [be_length, hk]), List.take_left' (be_length _ _)]
  · unfold r4
    rw [List.drop_left' (nums_len x)]
theorem blk_eq (x : Cl) : blk x = nums x ++ (txt x.ci ++ List.replicate (4096 - (head x).length) 0) := by rw [blk, head, List.append_assoc]
theorem cut_txt (s r : List UInt8) (h : s.length ≤ 4000) : cut (txt s ++ r) = (s, r, 0) := cut_text s r (by omega)
theorem gone_kb (x : Cl) (s : List UInt8) (h : r0 s = kb x.gn) : isGone s = x.gn := by
  unfold isGone
  rw [h]
  cases x.gn <;> decide +kernel
/-- What was put is read as it was. -/
theorem rd_blk {x : Cl} (h : may x) : rd (blk x) = x := by
  obtain ⟨e0, e1, e2, e3, e4⟩ := pieces x (txt x.ci ++ List.replicate (4096 - (head x).length) 0)
  rw [← blk_eq] at e0 e1 e2 e3 e4
  obtain ⟨⟨h0, h1⟩, ⟨h2, h3⟩, ⟨h4, h5⟩, h6, _⟩ := h
  have hg := gone_kb x _ e0
  have hc := cut_txt x.ci (List.replicate (4096 - (head x).length) 0) h6
  unfold rd
  rw [hg, e1, e2, e3, e4, hc, num_be, num_be, num_be]
  obtain ⟨ep, sl, lb, gn, ci⟩ := x
  simp only [Nat.reducePow, Cl.mk.injEq, and_true] at *
  omega
theorem readable_blk {x : Cl} (h : may x) : readable (blk x) := by
  obtain ⟨_, _, _, _, e4⟩ := pieces x (txt x.ci ++ List.replicate (4096 - (head x).length) 0)
  rw [← blk_eq] at e4
  refine ⟨blk_len h.2.2.2.1, ?_⟩
  rw [e4, cut_txt x.ci _ h.2.2.2.1]
theorem good_blk {x : Cl} (h : may x) : good (blk x) := by
  refine ⟨readable_blk h, ?_⟩
  rw [rd_blk h]
  exact ⟨h, rfl⟩
theorem take_blk {x : Cl} (h : may x) : take (blk x) = (x, 0) := by rw [take_yes (good_blk h), rd_blk h]
/-- Held texts. -/
def hmay (s : List UInt8) : Prop := 1 ≤ s.length ∧ s.length ≤ 4000
instance (s : List UInt8) : Decidable (hmay s) := inferInstanceAs (Decidable (_ ∧ _))
def hhead (s : List UInt8) : List UInt8 := [3] ++ txt s
def hblk (s : List UInt8) : List UInt8 := hhead s ++ List.replicate (4096 - (hhead s).length) 0
theorem hhead_len (s : List UInt8) : (hhead s).length = 5 + s.length := by rw [hhead, List.length_append, txt_len]; simp; omega
theorem hblk_len {s : List UInt8} (h : s.length ≤ 4000) : (hblk s).length = 4096 := by
  have := hhead_len s
  rw [hblk, List.length_append, List.length_replicate]
  omega
def hold (s : List UInt8) : List UInt8 × Int := if hmay s then (hblk s, 0) else ([], 2)
theorem hold_yes {s : List UInt8} (h : hmay s) : hold s = (hblk s, 0) := if_pos h
theorem hold_no {s : List UInt8} (h : ¬ hmay s) : hold s = ([], 2) := if_neg h
/-- What stands behind the first byte, as a text. -/
def ht (s : List UInt8) : List UInt8 := (cut (s.drop 1)).1
def hread (s : List UInt8) : Prop := s.length = 4096 ∧ (cut (s.drop 1)).2.2 = 0
instance (s : List UInt8) : Decidable (hread s) := inferInstanceAs (Decidable (_ ∧ _))
def hgood (s : List UInt8) : Prop := hread s ∧ hmay (ht s) ∧ hblk (ht s) = s
instance (s : List UInt8) : Decidable (hgood s) := inferInstanceAs (Decidable (_ ∧ _))
def held (s : List UInt8) : List UInt8 × Int := if hgood s then (ht s, 0) else ([], 3)
theorem held_yes {s : List UInt8} (h : hgood s) : held s = (ht s, 0) := if_pos h
theorem held_no {s : List UInt8} (h : ¬ hgood s) : held s = ([], 3) := if_neg h
theorem again_held {s : List UInt8} (h : hread s) : (hold (ht s)).1 = s ↔ hgood s := by
  by_cases hm : hmay (ht s)
  · rw [hold_yes hm]; exact ⟨fun e => ⟨h, hm, e⟩, fun e => e.2.2⟩
  · rw [hold_no hm]
    constructor
    · intro e
      have e' : ([] : List UInt8) = s := e
      have h1 := h.1
      rw [← e'] at h1
      simp at h1
    · intro e; exact absurd e.2.1 hm
theorem hold_held {s : List UInt8} (h : hgood s) : hold (ht s) = (s, 0) := by rw [hold_yes h.2.1, h.2.2]
theorem cut_hblk {s : List UInt8} (h : hmay s) : cut ((hblk s).drop 1) = (s, List.replicate (4096 - (hhead s).length) 0, 0) := by
  have e : hblk s = [3] ++ (txt s ++ List.replicate (4096 - (hhead s).length) 0) := by rw [hblk, hhead, List.append_assoc]
  rw [e]
  exact cut_txt s _ h.2
theorem hgood_hblk {s : List UInt8} (h : hmay s) : hgood (hblk s) ∧ ht (hblk s) = s := by
  have e : ht (hblk s) = s := by unfold ht; rw [cut_hblk h]
  refine ⟨⟨⟨hblk_len h.2, by rw [cut_hblk h]⟩, ?_⟩, e⟩
  rw [e]
  exact ⟨h, rfl⟩
theorem held_hblk {s : List UInt8} (h : hmay s) : held (hblk s) = (s, 0) := by
  obtain ⟨h1, h2⟩ := hgood_hblk h
  rw [held_yes h1, h2]
/-- No bytes are a cell's and a held text's. -/
theorem apart {s : List UInt8} (h : good s) : ¬ hgood s := by
  intro hh
  have e1 : s[0]? = some (if (rd s).gn then 2 else 1) := by
    conv => lhs; rw [← h.2.2, blk_eq, nums_eq]
    cases (rd s).gn <;> rfl
  have e2 : s[0]? = some 3 := by
    conv => lhs; rw [← hh.2.2]
    rfl
  rw [e2] at e1
  revert e1
  cases (rd s).gn <;> decide
def empty : List UInt8 := List.replicate 4096 0
/-- The kinds. -/
def kind (s : List UInt8) : Int := if good s then kd (rd s).gn else if hgood s then 3 else if s = empty then 0 else -1
theorem kind_cell {s : List UInt8} (h : good s) : kind s = kd (rd s).gn := if_pos h
theorem kind_held {s : List UInt8} (h : ¬ good s) (hh : hgood s) : kind s = 3 := by rw [kind, if_neg h, if_pos hh]
theorem kind_empty {s : List UInt8} (h : ¬ good s) (hh : ¬ hgood s) (he : s = empty) : kind s = 0 := by rw [kind, if_neg h, if_neg hh, if_pos he]
theorem kind_none {s : List UInt8} (h : ¬ good s) (hh : ¬ hgood s) (he : ¬ s = empty) : kind s = -1 := by rw [kind, if_neg h, if_neg hh, if_neg he]
/-- What is left of a cell. -/
def left (x : Cl) : Cl := ⟨x.ep, x.sl, x.lb, true, []⟩
theorem left_may {x : Cl} (h : may x) : may (left x) := ⟨h.1, h.2.1, h.2.2.1, by simp [left], .inr rfl⟩
theorem left_tail (x : Cl) : (blk (left x)).drop 17 = List.replicate 4079 0 := by
  have hl : (head (left x)).length = 17 := by rw [head_len]; rfl
  rw [blk, List.drop_left' hl, hl]
theorem left_kind {x : Cl} (h : may x) : kind (blk (left x)) = 2 := by
  rw [kind_cell (good_blk (left_may h)), rd_blk (left_may h)]
  rfl
/-- The chapter's example. -/
def one : Cl := ⟨1, 2, 3, false, [97, 98]⟩
theorem one_may : may one := by decide +kernel
theorem one_head : head one = [1, 0, 0, 0, 1, 0, 0, 0, 2, 0, 0, 0, 3, 0, 0, 0, 2, 97, 98] := by decide +kernel
theorem one_take : (blk one).take 19 = [1, 0, 0, 0, 1, 0, 0, 0, 2, 0, 0, 0, 3, 0, 0, 0, 2, 97, 98] := by
  rw [blk, List.take_left' (by rw [head_len]; rfl), one_head]
theorem one_drop : (blk one).drop 19 = List.replicate 4077 0 := by
  have hl : (head one).length = 19 := by rw [head_len]; rfl
  rw [blk, List.drop_left' hl, hl]
/-- The pieces that Unpack takes. -/
theorem unpack_read {s : List UInt8} (h : s.length = 4096) : unpack [1, 4, 4, 4] (s.take 13) = ([(num (r0 s) : Int), num (r1 s), num (r2 s), num (r3 s)], 0) := by
  obtain ⟨l0, l1, l2, l3, _⟩ := r_len h
  have p0 : piece [1, 4, 4, 4] (s.take 13) 0 = r0 s := by
    show ((s.take 13).drop 0).take 1 = s.take 1
    rw [List.drop_zero, List.take_take]
    rfl
  have p1 : piece [1, 4, 4, 4] (s.take 13) 1 = r1 s := by
    show ((s.take 13).drop 1).take 4 = (s.drop 1).take 4
    rw [List.drop_take, List.take_take]
    rfl
  have p2 : piece [1, 4, 4, 4] (s.take 13) 2 = r2 s := by
    show ((s.take 13).drop 5).take 4 = (s.drop 5).take 4
    rw [List.drop_take, List.take_take]
    rfl
  have p3 : piece [1, 4, 4, 4] (s.take 13) 3 = r3 s := by
    show ((s.take 13).drop 9).take 4 = (s.drop 9).take 4
    rw [List.drop_take, List.take_take]
    rfl
  have g0 := get_of (r0 s) (by omega) (by omega)
  have g1 := get_of (r1 s) (by omega) (by omega)
  have g2 := get_of (r2 s) (by omega) (by omega)
  have g3 := get_of (r3 s) (by omega) (by omega)
  have hw : widthsTo [1, 4, 4, 4] 4 := fun j hj => by
    match j, hj with
    | 0, _ => simp
    | 1, _ => simp
    | 2, _ => simp
    | 3, _ => simp
  have hg : gotTo [1, 4, 4, 4] (s.take 13) 4 := fun j hj => by
    match j, hj with
    | 0, _ => rw [p0, g0]
    | 1, _ => rw [p1, g1]
    | 2, _ => rw [p2, g2]
    | 3, _ => rw [p3, g3]
  rw [unpack_good [1, 4, 4, 4] _ hw (by simp [sumTo, h]) hg]
  show (numsTo [1, 4, 4, 4] (s.take 13) 4, 0) = _
  simp [numsTo, p0, p1, p2, p3, g0, g1, g2, g3]
end Go.Proofs.Yteobimhibhfokaa.CelN
