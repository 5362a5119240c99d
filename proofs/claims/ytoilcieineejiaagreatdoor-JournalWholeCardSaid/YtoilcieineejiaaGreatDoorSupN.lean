/- Plain mathematics of super: whether seven numbers are a superblock's, its bytes, which superblock a block is, which of two is chosen, the next one. No program is reached here; no conditions. -/
import Derived.Test.YtoilcieineejiaaGreatDoorLGeo
import Derived.Test.YtoilcieineejiaaGreatDoorLShn
namespace Go.Proofs.YtoilcieineejiaaGreatDoor.SupN
open GeoN GeoU
/-- The numbers of a superblock: Gen, Tail, Epoch, Clock, and the shape's. -/
structure Sb where
  g : Int
  t : Int
  e : Int
  k : Int
  b : Int
  l : Int
  f : Int
def nil_ : Sb := ⟨0, 0, 0, 0, 0, 0, 0⟩
/-- A superblock may be. -/
def may (x : Sb) : Prop := right x.b x.l x.f ∧ (1 ≤ x.g ∧ x.g ≤ 1152921504606846976) ∧ (0 ≤ x.t ∧ x.t ≤ x.b - 4) ∧ (x.f ≤ x.e ∧ x.e ≤ 4294967295) ∧ 0 ≤ x.k ∧ x.k ≤ 1099511627776
instance (x : Sb) : Decidable (may x) := inferInstanceAs (Decidable (_ ∧ _))
def check (x : Sb) : Int := if may x then 0 else 2
theorem check_yes {x : Sb} (h : may x) : check x = 0 := if_pos h
theorem check_no {x : Sb} (h : ¬ may x) : check x = 2 := if_neg h
def mark : List UInt8 := [107, 101, 101, 112, 115, 97, 107, 101, 49]
/-- The bytes of the four numbers. -/
def nums (x : Sb) : List UInt8 := be 8 x.g.toNat ++ be 4 x.t.toNat ++ be 4 x.e.toNat ++ be 8 x.k.toNat
def head (x : Sb) : List UInt8 := mark ++ nums x ++ bytes3 x.b x.l x.f
def body (x : Sb) : List UInt8 := head x ++ sum (head x)
/-- The bytes of a superblock that may be. -/
def blk (x : Sb) : List UInt8 := body x ++ List.replicate 4019 0
theorem nums_len (x : Sb) : (nums x).length = 24 := by simp [nums, be_length]
theorem head_len (x : Sb) : (head x).length = 45 := by simp [head, nums_len, bytes_len, mark]
theorem body_len (x : Sb) : (body x).length = 77 := by simp [body, head_len, sum_length]
theorem blk_len (x : Sb) : (blk x).length = 4096 := by rw [blk, List.length_append, body_len, List.length_replicate]
theorem put8 {n : Int} (h0 : 0 ≤ n) (h1 : n ≤ 1152921504606846976) : put n 8 = (be 8 n.toNat, 0) := put_good n 8 (by omega) (by omega) h0 (by simpa using (show n < 18446744073709551616 by omega))
theorem may_nums {x : Sb} (h : may x) : put x.g 8 = (be 8 x.g.toNat, 0) ∧ put x.t 4 = (be 4 x.t.toNat, 0) ∧ put x.e 4 = (be 4 x.e.toNat, 0) ∧ put x.k 8 = (be 8 x.k.toNat, 0) := by
  obtain ⟨hr, hg, ht, he, hk⟩ := h
  unfold right at hr
  exact ⟨put8 (by omega) (by omega), put4 (by omega) (by omega), put4 (by omega) (by omega), put8 (by omega) (by omega)⟩
/-- What Pack answers of the four numbers. -/
theorem pack_may {x : Sb} (h : may x) : pack [8, 4, 4, 8] [x.g, x.t, x.e, x.k] = (nums x, 0) := by
  obtain ⟨p0, p1, p2, p3⟩ := may_nums h
  unfold pack
  rw [if_pos ⟨rfl, fun j hj => by
    match j, hj with
    | 0, _ => simpa using congrArg Prod.snd p0
    | 1, _ => simpa using congrArg Prod.snd p1
    | 2, _ => simpa using congrArg Prod.snd p2
    | 3, _ => simpa using congrArg Prod.snd p3⟩]
  simp [packTo, p0, p1, p2, p3, nums]
/-- What Put answers. -/
def put_ (x : Sb) : List UInt8 × Int := if may x then (blk x, 0) else ([], 2)
theorem put_yes {x : Sb} (h : may x) : put_ x = (blk x, 0) := if_pos h
theorem put_no {x : Sb} (h : ¬ may x) : put_ x = ([], 2) := if_neg h
/-- The pieces of a block, behind the mark. -/
def r0 (s : List UInt8) : List UInt8 := (s.drop 9).take 8
def r1 (s : List UInt8) : List UInt8 := (s.drop 17).take 4
def r2 (s : List UInt8) : List UInt8 := (s.drop 21).take 4
def r3 (s : List UInt8) : List UInt8 := (s.drop 25).take 8
def r4 (s : List UInt8) : List UInt8 := (s.drop 33).take 12
theorem r_len {s : List UInt8} (h : s.length = 4096) : (r0 s).length = 8 ∧ (r1 s).length = 4 ∧ (r2 s).length = 4 ∧ (r3 s).length = 8 ∧ (r4 s).length = 12 := by
  simp [r0, r1, r2, r3, r4, h]
/-- What the pieces tell. -/
def rd (s : List UInt8) : Sb := ⟨num (r0 s), num (r1 s), num (r2 s), num (r3 s), nb (r4 s), nl (r4 s), nf (r4 s)⟩
/-- The pieces are numbers, and the last one is a shape. -/
def readable (s : List UInt8) : Prop := s.length = 4096 ∧ num (r0 s) < 9223372036854775808 ∧ num (r3 s) < 9223372036854775808 ∧ right (nb (r4 s)) (nl (r4 s)) (nf (r4 s))
instance (s : List UInt8) : Decidable (readable s) := inferInstanceAs (Decidable (_ ∧ _))
def readOf (s : List UInt8) : Sb × Int := if readable s then (rd s, 0) else (nil_, 3)
theorem read_yes {s : List UInt8} (h : readable s) : readOf s = (rd s, 0) := if_pos h
theorem read_no {s : List UInt8} (h : ¬ readable s) : readOf s = (nil_, 3) := if_neg h
/-- A block that is a superblock's. -/
def good (s : List UInt8) : Prop := may (rd s) ∧ blk (rd s) = s
instance (s : List UInt8) : Decidable (good s) := inferInstanceAs (Decidable (_ ∧ _))
/-- What Take answers. -/
def take (s : List UInt8) : Sb × Int := if good s then (rd s, 0) else (nil_, 3)
theorem take_yes {s : List UInt8} (h : good s) : take s = (rd s, 0) := if_pos h
theorem take_no {s : List UInt8} (h : ¬ good s) : take s = (nil_, 3) := if_neg h
theorem good_readable {s : List UInt8} (h : good s) : readable s := by
  obtain ⟨⟨hr, hg, ht, he, hk⟩, hb⟩ := h
  refine ⟨by rw [← hb]; exact blk_len _, ?_, ?_, hr⟩
  · have h1 : ((num (r0 s) : Nat) : Int) ≤ 1152921504606846976 := hg.2
    omega
  · have h1 : ((num (r3 s) : Nat) : Int) ≤ 1099511627776 := hk.2
    omega
/-- What is put again is the block, just where it is a superblock's. -/
theorem again_good {s : List UInt8} (h : s.length = 4096) : (put_ (rd s)).1 = s ↔ good s := by
  by_cases hm : may (rd s)
  · rw [put_yes hm]; exact ⟨fun e => ⟨hm, e⟩, fun e => e.2⟩
  · rw [put_no hm]
    constructor
    · intro e
      have e' : ([] : List UInt8) = s := e
      rw [← e'] at h
      simp at h
    · intro e; exact absurd e.1 hm
theorem nums_of_blk (x : Sb) : r0 (blk x) = be 8 x.g.toNat ∧ r1 (blk x) = be 4 x.t.toNat ∧ r2 (blk x) = be 4 x.e.toNat ∧ r3 (blk x) = be 8 x.k.toNat ∧ r4 (blk x) = bytes3 x.b x.l x.f := by
  have hm : mark.length = 9 := rfl
  refine ⟨?_, ?_, ?_, ?_, ?_⟩
  · have e : blk x = mark ++ (be 8 x.g.toNat ++ (be 4 x.t.toNat ++ be 4 x.e.toNat ++ be 8 x.k.toNat ++ bytes3 x.b x.l x.f ++ sum (head x) ++ List.replicate 4019 0)) := by
      simp only [blk, body, List.append_assoc]; rw [show head x = mark ++ (be 8 x.g.toNat ++ (be 4 x.t.toNat ++ (be 4 x.e.toNat ++ (be 8 x.k.toNat ++ bytes3 x.b x.l x.f)))) from by simp only [head, nums, List.append_assoc]]; simp only [List.append_assoc]
    unfold r0
    rw [e, List.drop_left' hm, List.take_left' (be_length _ _)]
  · have e : blk x = (mark ++ be 8 x.g.toNat) ++ (be 4 x.t.toNat ++ (be 4 x.e.toNat ++ be 8 x.k.toNat ++ bytes3 x.b x.l x.f ++ sum (head x) ++ List.replicate 4019 0)) := by
      simp only [blk, body, List.append_assoc]; rw [show head x = mark ++ (be 8 x.g.toNat ++ (be 4 x.t.toNat ++ (be 4 x.e.toNat ++ (be 8 x.k.toNat ++ bytes3 x.b x.l x.f)))) from by simp only [head, nums, List.append_assoc]]; simp only [List.append_assoc]
    unfold r1
    rw [e, List.drop_left' (by simp [be_length, hm]), List.take_left' (be_length _ _)]
  · have e : blk x = (mark ++ be 8 x.g.toNat ++ be 4 x.t.toNat) ++ (be 4 x.e.toNat ++ (be 8 x.k.toNat ++ bytes3 x.b x.l x.f ++ sum (head x) ++ List.replicate 4019 0)) := by
      simp only [blk, body, List.append_assoc]; rw [show head x = mark ++ (be 8 x.g.toNat ++ (be 4 x.t.toNat ++ (be 4 x.e.toNat ++ (be 8 x.k.toNat ++ bytes3 x.b x.l x.f)))) from by simp only [head, nums, List.append_assoc]]; simp only [List.append_assoc]
    unfold r2
    rw [e, List.drop_left' (by simp [be_length, hm]), List.take_left' (be_length _ _)]
  · have e : blk x = (mark ++ be 8 x.g.toNat ++ be 4 x.t.toNat ++ be 4 x.e.toNat) ++ (be 8 x.k.toNat ++ (bytes3 x.b x.l x.f ++ sum (head x) ++ List.replicate 4019 0)) := by
      simp only [blk, body, List.append_assoc]; rw [show head x = mark ++ (be 8 x.g.toNat ++ (be 4 x.t.toNat ++ (be 4 x.e.toNat ++ (be 8 x.k.toNat ++ bytes3 x.b x.l x.f)))) from by simp only [head, nums, List.append_assoc]]; simp only [List.append_assoc]
    unfold r3
    rw [e, List.drop_left' (by simp [be_length, hm]), List.take_left' (be_length _ _)]
  · have e : blk x = (mark ++ be 8 x.g.toNat ++ be 4 x.t.toNat ++ be 4 x.e.toNat ++ be 8 x.k.toNat) ++ (bytes3 x.b x.l x.f ++ (sum (head x) ++ List.replicate 4019 0)) := by
      simp only [blk, body, List.append_assoc]; rw [show head x = mark ++ (be 8 x.g.toNat ++ (be 4 x.t.toNat ++ (be 4 x.e.toNat ++ (be 8 x.k.toNat ++ bytes3 x.b x.l x.f)))) from by simp only [head, nums, List.append_assoc]]; simp only [List.append_assoc]
    unfold r4
    rw [e, List.drop_left' (by simp [be_length, hm]), List.take_left' (bytes_len _ _ _)]
/-- What was put is read as it was. -/
theorem rd_blk {x : Sb} (h : may x) : rd (blk x) = x := by
  obtain ⟨e0, e1, e2, e3, e4⟩ := nums_of_blk x
  obtain ⟨hr, hg, ht, he, hk⟩ := h
  have hn := n_bytes hr
  have hr2 := hr
  unfold right at hr2
  unfold rd
  rw [e0, e1, e2, e3, e4, hn.1, hn.2.1, hn.2.2, num_be, num_be, num_be, num_be]
  obtain ⟨g, t, e, k, b, l, f⟩ := x
  simp only [Nat.reducePow, Sb.mk.injEq, and_true] at *
  omega
theorem good_blk {x : Sb} (h : may x) : good (blk x) := by
  unfold good
  rw [rd_blk h]
  exact ⟨h, rfl⟩
theorem take_blk {x : Sb} (h : may x) : take (blk x) = (x, 0) := by rw [take_yes (good_blk h), rd_blk h]
theorem put_take {s : List UInt8} (h : good s) : put_ (rd s) = (s, 0) := by rw [put_yes h.1, h.2]
theorem good_len {s : List UInt8} (h : good s) : s.length = 4096 := by rw [← h.2]; exact blk_len _
/-- The pieces that Unpack takes. -/
theorem unpack_read {s : List UInt8} (h : s.length = 4096) : unpack [8, 4, 4, 8] ((s.drop 9).take 24) = if num (r0 s) < 9223372036854775808 ∧ num (r3 s) < 9223372036854775808 then ([(num (r0 s) : Int), num (r1 s), num (r2 s), num (r3 s)], 0) else ([], 3) := by
  obtain ⟨l0, l1, l2, l3, _⟩ := r_len h
  have p0 : piece [8, 4, 4, 8] ((s.drop 9).take 24) 0 = r0 s := by
    show (((s.drop 9).take 24).drop 0).take 8 = (s.drop 9).take 8
    rw [List.drop_zero, List.take_take]; rfl
  have p1 : piece [8, 4, 4, 8] ((s.drop 9).take 24) 1 = r1 s := by
    show (((s.drop 9).take 24).drop 8).take 4 = (s.drop 17).take 4
    rw [List.drop_take, List.drop_drop, List.take_take]; rfl
  have p2 : piece [8, 4, 4, 8] ((s.drop 9).take 24) 2 = r2 s := by
    show (((s.drop 9).take 24).drop 12).take 4 = (s.drop 21).take 4
    rw [List.drop_take, List.drop_drop, List.take_take]; rfl
  have p3 : piece [8, 4, 4, 8] ((s.drop 9).take 24) 3 = r3 s := by
    show (((s.drop 9).take 24).drop 16).take 8 = (s.drop 25).take 8
    rw [List.drop_take, List.drop_drop, List.take_take]; rfl
  have hw : widthsTo [8, 4, 4, 8] 4 := fun j hj => by
    match j, hj with
    | 0, _ => simp
    | 1, _ => simp
    | 2, _ => simp
    | 3, _ => simp
  have hs : ((s.drop 9).take 24).length = sumTo [8, 4, 4, 8] 4 := by simp [sumTo, h]
  have g1 := get4 (r1 s) l1
  have g2 := get4 (r2 s) l2
  by_cases hh : num (r0 s) < 9223372036854775808 ∧ num (r3 s) < 9223372036854775808
  · rw [if_pos hh]
    have g0 := get_good (r0 s) (by omega) (by omega) hh.1
    have g3 := get_good (r3 s) (by omega) (by omega) hh.2
    have hg : gotTo [8, 4, 4, 8] ((s.drop 9).take 24) 4 := fun j hj => by
      match j, hj with
      | 0, _ => rw [p0, g0]
      | 1, _ => rw [p1, g1]
      | 2, _ => rw [p2, g2]
      | 3, _ => rw [p3, g3]
    rw [unpack_good [8, 4, 4, 8] _ hw hs hg]
    show (numsTo [8, 4, 4, 8] _ 4, 0) = _
    simp [numsTo, p0, p1, p2, p3, g0, g1, g2, g3]
  · rw [if_neg hh]
    refine unpack_bad [8, 4, 4, 8] _ hw hs fun hg => hh ⟨?_, ?_⟩
    · have h0 := hg 0 (by decide)
      rw [p0] at h0
      refine Decidable.byContradiction fun hn => ?_
      rw [get_bad _ (fun hq => hn hq.2.2)] at h0
      simp at h0
    · have h0 := hg 3 (by decide)
      rw [p3] at h0
      refine Decidable.byContradiction fun hn => ?_
      rw [get_bad _ (fun hq => hn hq.2.2)] at h0
      simp at h0
/-- What Choose answers: the superblock, its place, the error's number. -/
def choose (a b : List UInt8) : Sb × Int × Int := if (take a).1.g < (take b).1.g then ((take b).1, 1, 0) else if good a then ((take a).1, 0, 0) else (nil_, 0, 7)
theorem take_g {a : List UInt8} : (good a ∧ 1 ≤ (take a).1.g) ∨ (¬ good a ∧ (take a).1 = nil_) := by
  by_cases h : good a
  · exact .inl ⟨h, by rw [take_yes h]; exact h.1.2.1.1⟩
  · exact .inr ⟨h, by rw [take_no h]⟩
theorem nil_g : nil_.g = 0 := rfl
/-- What the document's Choose answers. -/
def rchoose (a b : List UInt8) : Sb × Int := if good a ∧ (¬ good b ∨ (take b).1.g ≤ (take a).1.g) then ((take a).1, 0) else if good b then ((take b).1, 1) else (nil_, -1)
theorem choose_1 {a b : List UInt8} (h : (take a).1.g < (take b).1.g) : choose a b = ((take b).1, 1, 0) := if_pos h
theorem choose_0 {a b : List UInt8} (h : ¬ (take a).1.g < (take b).1.g) (ha : good a) : choose a b = ((take a).1, 0, 0) := by rw [choose, if_neg h, if_pos ha]
theorem choose_n {a b : List UInt8} (h : ¬ (take a).1.g < (take b).1.g) (ha : ¬ good a) : choose a b = (nil_, 0, 7) := by rw [choose, if_neg h, if_neg ha]
theorem rchoose_0 {a b : List UInt8} (ha : good a) (h : ¬ good b ∨ (take b).1.g ≤ (take a).1.g) : rchoose a b = ((take a).1, 0) := if_pos ⟨ha, h⟩
theorem rchoose_1 {a b : List UInt8} (h : ¬ (good a ∧ (¬ good b ∨ (take b).1.g ≤ (take a).1.g))) (hb : good b) : rchoose a b = ((take b).1, 1) := by rw [rchoose, if_neg h, if_pos hb]
theorem rchoose_n {a b : List UInt8} (ha : ¬ good a) (hb : ¬ good b) : rchoose a b = (nil_, -1) := by rw [rchoose, if_neg (fun hh => ha hh.1), if_neg hb]
theorem choose_same (a b : List UInt8) : (rchoose a b).1 = (choose a b).1 ∧ (((choose a b).2.2 = 0 ∧ (rchoose a b).2 = (choose a b).2.1 ∧ 0 ≤ (rchoose a b).2) ∨ ((choose a b).2.2 = 7 ∧ (choose a b).2.1 = 0 ∧ (rchoose a b).2 = -1)) := by
  rcases take_g (a := a) with ⟨ha, h1⟩ | ⟨ha, h1⟩ <;> rcases take_g (a := b) with ⟨hb, h2⟩ | ⟨hb, h2⟩
  · by_cases hl : (take a).1.g < (take b).1.g
    · rw [choose_1 hl, rchoose_1 (fun hh => hh.2.elim (fun q => q hb) (fun q => by omega)) hb]
      simp
    · rw [choose_0 hl ha, rchoose_0 ha (.inr (by omega))]
      simp
  · rw [choose_0 (by rw [h2, nil_g]; omega) ha, rchoose_0 ha (.inl hb)]
    simp
  · rw [choose_1 (by rw [h1, nil_g]; omega), rchoose_1 (fun hh => ha hh.1) hb]
    simp
  · rw [choose_n (by rw [h1, h2, nil_g]; omega) ha, rchoose_n ha hb]
    simp
/-- What Next answers. -/
def next (x : Sb) : Sb × Int := if may x then if x.g = 1152921504606846976 then (nil_, 6) else (⟨x.g + 1, x.t, x.e, x.k, x.b, x.l, x.f⟩, 0) else (nil_, 2)
theorem next_no {x : Sb} (h : ¬ may x) : next x = (nil_, 2) := if_neg h
theorem next_last {x : Sb} (h : may x) (hg : x.g = 1152921504606846976) : next x = (nil_, 6) := by rw [next, if_pos h, if_pos hg]
theorem next_yes {x : Sb} (h : may x) (hg : ¬ x.g = 1152921504606846976) : next x = (⟨x.g + 1, x.t, x.e, x.k, x.b, x.l, x.f⟩, 0) := by rw [next, if_pos h, if_neg hg]
theorem may_next {x : Sb} (h : may x) (hg : ¬ x.g = 1152921504606846976) : may ⟨x.g + 1, x.t, x.e, x.k, x.b, x.l, x.f⟩ := by
  obtain ⟨hr, h1, ht, he, hk⟩ := h
  exact ⟨hr, ⟨by show 1 ≤ x.g + 1; omega, by show x.g + 1 ≤ _; omega⟩, ht, he, hk⟩
end Go.Proofs.YtoilcieineejiaaGreatDoor.SupN
