/- Plain mathematics of slots: a key's bytes, which epoch and key a block is, which key is picked, what is stale, what both blocks become. No program is reached here; no conditions. -/
import Derived.Test.YtoilcieineejiaaGreatDoorShaNum
namespace Go.Proofs.YtoilcieineejiaaGreatDoor.SloN
/-- A number that is an epoch's. -/
def may (e : Int) : Prop := 0 ≤ e ∧ e ≤ 4294967295
instance (e : Int) : Decidable (may e) := inferInstanceAs (Decidable (_ ∧ _))
def mark : List UInt8 := [107, 101, 121]
def head (e : Int) (k : List UInt8) : List UInt8 := mark ++ be 4 e.toNat ++ k
def tail : List UInt8 := List.replicate 4025 0
/-- A key's bytes. -/
def blk (e : Int) (k : List UInt8) : List UInt8 := head e k ++ sum (head e k) ++ tail
/-- An empty block. -/
def empty : List UInt8 := List.replicate 4096 0
theorem tail_len : tail.length = 4025 := List.length_replicate
theorem empty_len : empty.length = 4096 := List.length_replicate
theorem head_len (e : Int) {k : List UInt8} (h : k.length = 32) : (head e k).length = 39 := by simp [head, be_length, mark, h]
theorem blk_len (e : Int) {k : List UInt8} (h : k.length = 32) : (blk e k).length = 4096 := by rw [blk, List.length_append, List.length_append, head_len e h, sum_length, tail_len]
theorem blk_not (e : Int) (k : List UInt8) : blk e k ≠ empty := by
  intro h
  have h1 : (blk e k)[0]? = some 107 := rfl
  have h2 : empty[0]? = some 0 := by rw [empty, List.getElem?_replicate, if_pos (by omega)]
  rw [h, h2] at h1
  exact absurd h1 (by decide)
theorem put4 {e : Int} (h : may e) : put e 4 = (be 4 e.toNat, 0) := put_good e 4 (by omega) (by omega) h.1 (by have := h.2; simpa using (show e < 4294967296 by omega))
theorem get4 (l : List UInt8) (h : l.length = 4) : get l = ((num l : Int), 0) := by
  have := num_lt l
  rw [h] at this
  exact get_good l (by omega) (by omega) (by simp only [Nat.reducePow] at this; omega)
/-- What Put answers. -/
def put_ (e : Int) (k : List UInt8) : List UInt8 × Int := if may e ∧ k.length = 32 then (blk e k, 0) else ([], 2)
theorem put_yes {e : Int} {k : List UInt8} (h : may e) (hk : k.length = 32) : put_ e k = (blk e k, 0) := if_pos ⟨h, hk⟩
theorem put_no {e : Int} {k : List UInt8} (h : ¬ (may e ∧ k.length = 32)) : put_ e k = ([], 2) := if_neg h
/-- The pieces of a block, and what they tell. -/
def num_ (s : List UInt8) : List UInt8 := (s.drop 3).take 4
def key_ (s : List UInt8) : List UInt8 := (s.drop 7).take 32
def of_ (s : List UInt8) : Int := num (num_ s)
theorem num_len {s : List UInt8} (h : s.length = 4096) : (num_ s).length = 4 := by simp [num_, h]
theorem key_len {s : List UInt8} (h : s.length = 4096) : (key_ s).length = 32 := by simp [key_, h]
theorem of_may {s : List UInt8} (h : s.length = 4096) : may (of_ s) := by
  have := num_lt (num_ s)
  rw [num_len h] at this
  simp only [Nat.reducePow] at this
  unfold may of_
  omega
/-- A block that is a key's. -/
def good (s : List UInt8) : Prop := s.length = 4096 ∧ blk (of_ s) (key_ s) = s
instance (s : List UInt8) : Decidable (good s) := inferInstanceAs (Decidable (_ ∧ _))
/-- What Take answers: the epoch, the key, the error's number. -/
def take (s : List UInt8) : Int × List UInt8 × Int := if s = empty then (0, [], 7) else if good s then (of_ s, key_ s, 0) else (0, [], 3)
theorem take_none {s : List UInt8} (h : s = empty) : take s = (0, [], 7) := if_pos h
theorem take_yes {s : List UInt8} (h : good s) : take s = (of_ s, key_ s, 0) := by
  rw [take, if_neg (fun e => blk_not (of_ s) (key_ s) (h.2.trans e)), if_pos h]
theorem take_no {s : List UInt8} (h : ¬ s = empty) (hg : ¬ good s) : take s = (0, [], 3) := by rw [take, if_neg h, if_neg hg]
theorem pieces (e : Int) {k : List UInt8} (h : k.length = 32) : num_ (blk e k) = be 4 e.toNat ∧ key_ (blk e k) = k := by
  have hm : mark.length = 3 := rfl
  refine ⟨?_, ?_⟩
  · have q : blk e k = mark ++ (be 4 e.toNat ++ (k ++ sum (head e k) ++ tail)) := by simp only [blk]; rw [show head e k = mark ++ (be 4 e.toNat ++ k) from by simp only [head, List.append_assoc]]; simp only [List.append_assoc]
    unfold num_
    rw [q, List.drop_left' hm, List.take_left' (be_length _ _)]
  · have q : blk e k = (mark ++ be 4 e.toNat) ++ (k ++ (sum (head e k) ++ tail)) := by simp only [blk]; rw [show head e k = mark ++ (be 4 e.toNat ++ k) from by simp only [head, List.append_assoc]]; simp only [List.append_assoc]
    unfold key_
    rw [q, List.drop_left' (by simp [be_length, hm]), List.take_left' h]
theorem of_blk {e : Int} {k : List UInt8} (h : may e) (hk : k.length = 32) : of_ (blk e k) = e ∧ key_ (blk e k) = k := by
  obtain ⟨p, q⟩ := pieces e hk
  refine ⟨?_, q⟩
  unfold of_
  rw [p, num_be]
  obtain ⟨h0, h1⟩ := h
  simp only [Nat.reducePow]
  omega
theorem good_blk {e : Int} {k : List UInt8} (h : may e) (hk : k.length = 32) : good (blk e k) := by
  obtain ⟨p, q⟩ := of_blk h hk
  exact ⟨blk_len e hk, by rw [p, q]⟩
theorem take_blk {e : Int} {k : List UInt8} (h : may e) (hk : k.length = 32) : take (blk e k) = (e, k, 0) := by
  obtain ⟨p, q⟩ := of_blk h hk
  rw [take_yes (good_blk h hk), p, q]
theorem put_take {s : List UInt8} (h : s.length = 4096) : put_ (of_ s) (key_ s) = (blk (of_ s) (key_ s), 0) := put_yes (of_may h) (key_len h)
/-- Which of two blocks is for an epoch. -/
def for_ (a b : List UInt8) (e : Int) : List UInt8 := if e % 2 = 1 then b else a
/-- What Pick answers of the block for the epoch. -/
def pick1 (s : List UInt8) (e : Int) : List UInt8 × Int := if (take s).2.2 = 0 then if (take s).1 = e then ((take s).2.1, 0) else ([], 7) else ([], (take s).2.2)
def pick (a b : List UInt8) (e : Int) : List UInt8 × Int := if may e then pick1 (for_ a b e) e else ([], 2)
theorem pick_no {a b : List UInt8} {e : Int} (h : ¬ may e) : pick a b e = ([], 2) := if_neg h
theorem pick_odd {a b : List UInt8} {e : Int} (h : may e) (ho : e % 2 = 1) : pick a b e = pick1 b e := by rw [pick, if_pos h, for_, if_pos ho]
theorem pick_even {a b : List UInt8} {e : Int} (h : may e) (ho : ¬ e % 2 = 1) : pick a b e = pick1 a e := by rw [pick, if_pos h, for_, if_neg ho]
theorem take_err (s : List UInt8) : ((take s).2.2 = 0) ∨ ((take s).1 = 0 ∧ (take s).2.1 = [] ∧ ((take s).2.2 = 7 ∨ (take s).2.2 = 3)) := by
  unfold take
  split
  · exact .inr ⟨rfl, rfl, .inl rfl⟩
  · split
    · exact .inl rfl
    · exact .inr ⟨rfl, rfl, .inr rfl⟩
theorem pick1_err (s : List UInt8) (e : Int) : (pick1 s e).2 = 0 ∨ ((pick1 s e).1 = [] ∧ ((pick1 s e).2 = 7 ∨ (pick1 s e).2 = 3)) := by
  unfold pick1
  split
  · split
    · exact .inl rfl
    · exact .inr ⟨rfl, .inl rfl⟩
  · rename_i h
    rcases take_err s with h1 | ⟨_, _, h2⟩
    · exact absurd h1 h
    · exact .inr ⟨rfl, h2⟩
theorem pick_err (a b : List UInt8) (e : Int) : (pick a b e).2 = 0 ∨ ((pick a b e).1 = [] ∧ ((pick a b e).2 = 7 ∨ (pick a b e).2 = 3 ∨ (pick a b e).2 = 2)) := by
  unfold pick
  split
  · rcases pick1_err (for_ a b e) e with h | ⟨h1, h2⟩
    · exact .inl h
    · exact .inr ⟨h1, by omega⟩
  · exact .inr ⟨rfl, .inr (.inr rfl)⟩
theorem pick_may {a b : List UInt8} {e : Int} (h : (pick a b e).2 = 0) : may e := by
  refine Decidable.byContradiction fun hn => ?_
  rw [pick_no hn] at h
  simp at h
theorem pick1_blk {e : Int} {k : List UInt8} (h : may e) (hk : k.length = 32) : pick1 (blk e k) e = (k, 0) := by
  rw [pick1, take_blk h hk]
  simp
theorem pick1_empty (e : Int) : pick1 empty e = ([], 7) := by
  rw [pick1, take_none rfl]
  simp
/-- What is stale. -/
def stale (a b : List UInt8) (e : Int) : List Int := if may e then if e % 2 = 1 then (if a = empty then [] else [0]) else (if b = empty then [] else [1]) else []
theorem stale_no {a b : List UInt8} {e : Int} (h : ¬ may e) : stale a b e = [] := if_neg h
theorem stale_odd {a b : List UInt8} {e : Int} (h : may e) (ho : e % 2 = 1) : stale a b e = if a = empty then [] else [0] := by rw [stale, if_pos h, if_pos ho]
theorem stale_even {a b : List UInt8} {e : Int} (h : may e) (ho : ¬ e % 2 = 1) : stale a b e = if b = empty then [] else [1] := by rw [stale, if_pos h, if_neg ho]
theorem stale_len (a b : List UInt8) (e : Int) : (stale a b e).length ≤ 1 := by
  unfold stale
  split
  · split <;> split <;> simp
  · simp
/-- What Evolve answers: both blocks, the error's number. -/
def evolve (a b : List UInt8) (e : Int) (k : List UInt8) : List UInt8 × List UInt8 × Int :=
  if (pick a b e).2 = 0 then if e = 4294967295 then ([], [], 6) else if k.length = 32 then (if e % 2 = 1 then (blk (e + 1) k, b, 0) else (a, blk (e + 1) k, 0)) else ([], [], 2) else ([], [], (pick a b e).2)
theorem evolve_err {a b : List UInt8} {e : Int} {k : List UInt8} (h : ¬ (pick a b e).2 = 0) : evolve a b e k = ([], [], (pick a b e).2) := if_neg h
theorem evolve_last {a b : List UInt8} {e : Int} {k : List UInt8} (h : (pick a b e).2 = 0) (he : e = 4294967295) : evolve a b e k = ([], [], 6) := by rw [evolve, if_pos h, if_pos he]
theorem evolve_key {a b : List UInt8} {e : Int} {k : List UInt8} (h : (pick a b e).2 = 0) (he : ¬ e = 4294967295) (hk : ¬ k.length = 32) : evolve a b e k = ([], [], 2) := by rw [evolve, if_pos h, if_neg he, if_neg hk]
theorem evolve_odd {a b : List UInt8} {e : Int} {k : List UInt8} (h : (pick a b e).2 = 0) (he : ¬ e = 4294967295) (hk : k.length = 32) (ho : e % 2 = 1) : evolve a b e k = (blk (e + 1) k, b, 0) := by rw [evolve, if_pos h, if_neg he, if_pos hk, if_pos ho]
theorem evolve_even {a b : List UInt8} {e : Int} {k : List UInt8} (h : (pick a b e).2 = 0) (he : ¬ e = 4294967295) (hk : k.length = 32) (ho : ¬ e % 2 = 1) : evolve a b e k = (a, blk (e + 1) k, 0) := by rw [evolve, if_pos h, if_neg he, if_pos hk, if_neg ho]
end Go.Proofs.YtoilcieineejiaaGreatDoor.SloN
