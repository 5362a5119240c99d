/- Plain mathematics of hidden data: what Count, Stream and Xor answer. No program is reached here; no conditions but those that each lemma names. -/
import Derived.Test.YtjlepjnfacmieaaOctNum
import Derived.Test.YtjlepjnfacmieaaAesS
namespace Go.Proofs.Ytjlepjnfacmieaa.CtrN
open AesM
/-- The block of an epoch, a slot and a number. -/
def cntB (e s i : Nat) : List UInt8 := [117, 0, 0, 0] ++ (be 4 e ++ (be 4 s ++ be 4 i))
/-- What Count answers: the block and the error's number. -/
def cnt (e s i : Int) : List UInt8 × Int := if (0 ≤ e ∧ e < 4294967296) ∧ (0 ≤ s ∧ s < 4294967296) ∧ (0 ≤ i ∧ i < 4294967296) then (cntB e.toNat s.toNat i.toNat, 0) else ([], 2)
theorem cntB_length (e s i : Nat) : (cntB e s i).length = 16 := by simp [cntB, be_length]
theorem put4 (n : Int) (h : 0 ≤ n ∧ n < 4294967296) : put n 4 = (be 4 n.toNat, 0) := put_good n 4 (by omega) (by omega) h.1 (by rw [show (4 : Int).toNat = 4 from rfl]; omega)
theorem put4_no (n : Int) (h : ¬ (0 ≤ n ∧ n < 4294967296)) : put n 4 = ([], 2) := put_bad n 4 (fun hh => h ⟨hh.2.2.1, by have := hh.2.2.2; rw [show (4 : Int).toNat = 4 from rfl] at this; omega⟩)
theorem put4_ok (n : Int) (h : (put n 4).2 = 0) : 0 ≤ n ∧ n < 4294967296 := by
  by_cases hh : 0 ≤ n ∧ n < 4294967296
  · exact hh
  · rw [put4_no n hh] at h
    simp at h
theorem put117 : put 117 1 = ([117], 0) := by decide +kernel
theorem put0 : put 0 3 = ([0, 0, 0], 0) := by decide +kernel
theorem cnt_pack (e s i : Int) : pack [1, 3, 4, 4, 4] [117, 0, e, s, i] = cnt e s i := by
  by_cases h : (0 ≤ e ∧ e < 4294967296) ∧ (0 ≤ s ∧ s < 4294967296) ∧ (0 ≤ i ∧ i < 4294967296)
  · rw [cnt, if_pos h, pack, if_pos]
    · show (((((([] ++ (put 117 1).1) ++ (put 0 3).1) ++ (put e 4).1) ++ (put s 4).1) ++ (put i 4).1, (0 : Int)) : List UInt8 × Int) = _
      rw [put117, put0, put4 e h.1, put4 s h.2.1, put4 i h.2.2]
      simp [cntB]
    · refine ⟨rfl, fun j hj => ?_⟩
      have hj' : j < 5 := hj
      have : j = 0 ∨ j = 1 ∨ j = 2 ∨ j = 3 ∨ j = 4 := by omega
      rcases this with rfl | rfl | rfl | rfl | rfl
      · show (put 117 1).2 = 0; rw [put117]
      · show (put 0 3).2 = 0; rw [put0]
      · show (put e 4).2 = 0; rw [put4 e h.1]
      · show (put s 4).2 = 0; rw [put4 s h.2.1]
      · show (put i 4).2 = 0; rw [put4 i h.2.2]
  · rw [cnt, if_neg h, pack, if_neg]
    rintro ⟨_, hall⟩
    exact h ⟨put4_ok e (hall 2 (by simp)), put4_ok s (hall 3 (by simp)), put4_ok i (hall 4 (by simp))⟩
theorem cnt_good (e s i : Nat) (he : e < 4294967296) (hs : s < 4294967296) (hi : i < 4294967296) : cnt e s i = (cntB e s i, 0) := by
  rw [cnt, if_pos (by omega)]
  rfl
theorem cnt_no (e s i : Int) (h : ¬ (cnt e s i).2 = 0) : cnt e s i = ([], 2) := by
  by_cases hh : (0 ≤ e ∧ e < 4294967296) ∧ (0 ≤ s ∧ s < 4294967296) ∧ (0 ≤ i ∧ i < 4294967296)
  · exact absurd (by rw [cnt, if_pos hh]) h
  · rw [cnt, if_neg hh]
theorem cnt_ok (e s i : Int) (h : (cnt e s i).2 = 0) : (0 ≤ e ∧ e < 4294967296) ∧ (0 ≤ s ∧ s < 4294967296) ∧ (0 ≤ i ∧ i < 4294967296) := by
  by_cases hh : (0 ≤ e ∧ e < 4294967296) ∧ (0 ≤ s ∧ s < 4294967296) ∧ (0 ≤ i ∧ i < 4294967296)
  · exact hh
  · rw [cnt, if_neg hh] at h
    simp at h
theorem be4_inj (a b : Nat) (ha : a < 4294967296) (hb : b < 4294967296) (h : be 4 a = be 4 b) : a = b := by
  have h1 := num_be 4 a
  have h2 := num_be 4 b
  rw [h] at h1
  omega
theorem cntB_inj (e s i e' s' i' : Nat) (h1 : e < 4294967296) (h2 : s < 4294967296) (h3 : i < 4294967296) (h4 : e' < 4294967296) (h5 : s' < 4294967296) (h6 : i' < 4294967296) (h : cntB e s i = cntB e' s' i') : e = e' ∧ s = s' ∧ i = i' := by
  have ha := List.append_cancel_left h
  obtain ⟨hb, hc⟩ := List.append_inj ha (by rw [be_length, be_length])
  obtain ⟨hd, he⟩ := List.append_inj hc (by rw [be_length, be_length])
  exact ⟨be4_inj _ _ h1 h4 hb, be4_inj _ _ h2 h5 hd, be4_inj _ _ h3 h6 he⟩
/-- The block with this number, encrypted. -/
def blk (k : List UInt8) (e s i : Nat) : List UInt8 := encL k (cntB e s i)
theorem blk_length (k : List UInt8) (e s i : Nat) : (blk k e s i).length = 16 := encL_length _ _
/-- The byte at place 'p' of all blocks. -/
def byteAt (k : List UInt8) (e s p : Nat) : UInt8 := (blk k e s (p / 16)).getD (p % 16) 0
/-- 'n' bytes from the place 'f' on. -/
def strm (k : List UInt8) (e s f n : Nat) : List UInt8 := (List.range n).map fun j => byteAt k e s (f + j)
/-- So many blocks, one behind the other, from this number on. -/
def blks (k : List UInt8) (e s f : Nat) : Nat → List UInt8
  | 0 => []
  | m + 1 => blks k e s f m ++ blk k e s (f + m)
theorem strm_length (k : List UInt8) (e s f n : Nat) : (strm k e s f n).length = n := by simp [strm]
theorem strm_add (k : List UInt8) (e s f n m : Nat) : strm k e s f (n + m) = strm k e s f n ++ strm k e s (f + n) m := by
  unfold strm
  rw [List.range_add, List.map_append, List.map_map]
  congr 1
  apply List.map_congr_left
  intro j _
  show byteAt k e s (f + (n + j)) = byteAt k e s (f + n + j)
  rw [Nat.add_assoc]
theorem strm_next (k : List UInt8) (e s f n : Nat) : strm k e s f (n + 1) = strm k e s f n ++ [byteAt k e s (f + n)] := strm_add k e s f n 1
theorem strm_block (k : List UInt8) (e s a : Nat) : strm k e s (16 * a) 16 = blk k e s a := by
  rw [← fillL_id (blk k e s a) (blk_length k e s a)]
  show (List.range 16).map _ = (List.range 16).map _
  apply List.map_congr_left
  intro j hj
  have hj' : j < 16 := List.mem_range.1 hj
  show (blk k e s ((16 * a + j) / 16)).getD ((16 * a + j) % 16) 0 = (blk k e s a).getD j 0
  rw [show (16 * a + j) / 16 = a from by omega, show (16 * a + j) % 16 = j from by omega]
theorem blks_eq (k : List UInt8) (e s f : Nat) : ∀ m, blks k e s f m = strm k e s (16 * f) (16 * m)
  | 0 => rfl
  | m + 1 => by
    rw [blks, blks_eq k e s f m, show 16 * (m + 1) = 16 * m + 16 from by omega, strm_add, ← strm_block, show 16 * (f + m) = 16 * f + 16 * m from by omega]
theorem blks_length (k : List UInt8) (e s f m : Nat) : (blks k e s f m).length = 16 * m := by rw [blks_eq, strm_length]
theorem strm_cut (k : List UInt8) (e s f d n r : Nat) : ((strm k e s f (d + (n + r))).drop d).take n = strm k e s (f + d) n := by
  rw [strm_add, List.drop_left' (strm_length k e s f d), strm_add, List.take_left' (strm_length k e s (f + d) n)]
/-- What the stream is cut out of the blocks that hold it. -/
theorem blks_cut (k : List UInt8) (e s f n m : Nat) (h : f % 16 + n ≤ 16 * m) : ((blks k e s (f / 16) m).drop (f % 16)).take n = strm k e s f n := by
  obtain ⟨r, hr⟩ : ∃ r, 16 * m = f % 16 + (n + r) := ⟨16 * m - (f % 16 + n), by omega⟩
  rw [blks_eq, hr, strm_cut, show 16 * (f / 16) + f % 16 = f from by omega]
/-- What Stream answers: the bytes and the error's number. -/
def stream (k : List UInt8) (e s f n : Int) : List UInt8 × Int :=
  if k.length = 16 ∧ 0 ≤ f ∧ 0 ≤ n ∧ f + n ≤ 65536 ∧ (0 ≤ e ∧ e < 4294967296) ∧ (0 ≤ s ∧ s < 4294967296) then (strm k e.toNat s.toNat f.toNat n.toNat, 0) else ([], 2)
theorem stream_bad (k : List UInt8) (e s f n : Int) (h : ¬ (k.length = 16 ∧ 0 ≤ f ∧ 0 ≤ n ∧ f + n ≤ 65536 ∧ (0 ≤ e ∧ e < 4294967296) ∧ (0 ≤ s ∧ s < 4294967296))) : stream k e s f n = ([], 2) := if_neg h
theorem stream_good (k : List UInt8) (e s f n : Nat) (hk : k.length = 16) (h : f + n ≤ 65536) (he : e < 4294967296) (hs : s < 4294967296) : stream k e s f n = (strm k e s f n, 0) := by
  rw [stream, if_pos (by omega)]
  rfl
/-- Two texts held against each other, byte by byte. -/
def xorL (s t : List UInt8) : List UInt8 := (List.range s.length).map fun i => s.getD i 0 ^^^ t.getD i 0
theorem xorL_length (s t : List UInt8) : (xorL s t).length = s.length := by simp [xorL]
theorem xorL_getD (s t : List UInt8) (i : Nat) (h : i < s.length) : (xorL s t).getD i 0 = s.getD i 0 ^^^ t.getD i 0 := by simp [xorL, List.getD, h]
theorem xorL_back (s t : List UInt8) : xorL (xorL s t) t = s := by
  apply List.ext_getElem
  · rw [xorL_length, xorL_length]
  · intro i h1 h2
    have h3 := xorL_getD (xorL s t) t i (by rw [xorL_length]; exact h2)
    rw [xorL_getD s t i h2, UInt8.xor_assoc, UInt8.xor_self, UInt8.xor_zero] at h3
    rw [List.getD, List.getElem?_eq_getElem h1, Option.getD_some, List.getD, List.getElem?_eq_getElem h2, Option.getD_some] at h3
    exact h3
/-- What Xor answers: the text and the error's number. -/
def hide (k : List UInt8) (e s : Int) (x : List UInt8) : List UInt8 × Int :=
  if k.length = 16 ∧ x.length ≤ 65536 ∧ (0 ≤ e ∧ e < 4294967296) ∧ (0 ≤ s ∧ s < 4294967296) then (xorL x (strm k e.toNat s.toNat 0 x.length), 0) else ([], 2)
theorem hide_back (k : List UInt8) (e s : Int) (x : List UInt8) (h : (hide k e s x).2 = 0) : hide k e s (hide k e s x).1 = (x, 0) ∧ (hide k e s x).1.length = x.length := by
  by_cases hh : k.length = 16 ∧ x.length ≤ 65536 ∧ (0 ≤ e ∧ e < 4294967296) ∧ (0 ≤ s ∧ s < 4294967296)
  · have h1 : hide k e s x = (xorL x (strm k e.toNat s.toNat 0 x.length), 0) := if_pos hh
    rw [h1]
    refine ⟨?_, xorL_length _ _⟩
    rw [hide, if_pos (by rw [xorL_length]; exact hh), xorL_length, xorL_back]
  · rw [hide, if_neg hh] at h
    simp at h
/-- Unlike blocks are encrypted to unlike ones. -/
theorem enc_inj (k s t : List UInt8) (hs : s.length = 16) (ht : t.length = 16) (h : encL k s = encL k t) : s = t := by
  rw [← dec_enc k s hs, h, dec_enc k t ht]
end Go.Proofs.Ytjlepjnfacmieaa.CtrN
