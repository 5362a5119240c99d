/- Plain mathematics: HMAC with SHA-256, over rows of bytes. No program is reached here; no conditions but those that each lemma names. -/
import Derived.Test.YtkidehngleglnaaGreatDoorLOct
namespace Go.Proofs.YtkidehngleglnaaGreatDoor
/-- What a key's block begins with. -/
def keyHead (k : List UInt8) : List UInt8 := if 64 < k.length then sum k else k
/-- A key's block. -/
def keyBlock (k : List UInt8) : List UInt8 := keyHead k ++ List.replicate (64 - (keyHead k).length) 0
/-- A row of bytes, each held against one. -/
def heldBy (b : List UInt8) (n : UInt8) : List UInt8 := b.map fun x => x ^^^ n
def innerOf (k m : List UInt8) : List UInt8 := heldBy (keyBlock k) 54 ++ m
def outerOf (k m : List UInt8) : List UInt8 := heldBy (keyBlock k) 92 ++ sum (innerOf k m)
def macOf (k m : List UInt8) : List UInt8 := sum (outerOf k m)
theorem keyHead_le (k : List UInt8) : (keyHead k).length ≤ 64 := by
  unfold keyHead
  split
  · rw [sum_length]; omega
  · omega
theorem keyBlock_length (k : List UInt8) : (keyBlock k).length = 64 := by
  have := keyHead_le k
  rw [keyBlock, List.length_append, List.length_replicate]
  omega
theorem heldBy_length (b : List UInt8) (n : UInt8) : (heldBy b n).length = b.length := List.length_map _
theorem xor_back (a b n : UInt8) (h : a ^^^ n = b ^^^ n) : a = b := by
  have h2 : a ^^^ n ^^^ n = b ^^^ n ^^^ n := by rw [h]
  rwa [UInt8.xor_assoc, UInt8.xor_self, UInt8.xor_zero, UInt8.xor_assoc, UInt8.xor_self, UInt8.xor_zero] at h2
theorem heldBy_inj (n : UInt8) : ∀ {a b : List UInt8}, heldBy a n = heldBy b n → a = b
  | [], [], _ => rfl
  | [], _ :: _, h => by simp [heldBy] at h
  | _ :: _, [], h => by simp [heldBy] at h
  | x :: a, y :: b, h => by
    rw [heldBy, heldBy, List.map_cons, List.map_cons, List.cons.injEq] at h
    rw [xor_back x y n h.1, heldBy_inj n (a := a) (b := b) h.2]
theorem inner_length (k m : List UInt8) : (innerOf k m).length = 64 + m.length := by rw [innerOf, List.length_append, heldBy_length, keyBlock_length]
theorem outer_length (k m : List UInt8) : (outerOf k m).length = 96 := by rw [outerOf, List.length_append, heldBy_length, keyBlock_length, sum_length]
theorem inner_tail (k m : List UInt8) : (innerOf k m).drop 64 = m := by
  rw [innerOf, List.drop_append_of_le_length (by rw [heldBy_length, keyBlock_length]; omega), List.drop_of_length_le (by rw [heldBy_length, keyBlock_length]; omega), List.nil_append]
theorem outer_tail (k m : List UInt8) : (outerOf k m).drop 64 = sum (innerOf k m) := by
  rw [outerOf, List.drop_append_of_le_length (by rw [heldBy_length, keyBlock_length]; omega), List.drop_of_length_le (by rw [heldBy_length, keyBlock_length]; omega), List.nil_append]
theorem mac_length (k m : List UInt8) : (macOf k m).length = 32 := sum_length _
/-- With one Outer, the blocks are one, and the Inners' sums. -/
theorem outer_inj {k m l n : List UInt8} (h : outerOf k m = outerOf l n) : keyBlock k = keyBlock l ∧ sum (innerOf k m) = sum (innerOf l n) := by
  have h2 := List.append_inj h (by rw [heldBy_length, heldBy_length, keyBlock_length, keyBlock_length])
  exact ⟨heldBy_inj _ h2.1, h2.2⟩
theorem inner_inj {k m l n : List UInt8} (h : innerOf k m = innerOf l n) : keyBlock k = keyBlock l ∧ m = n := by
  have h2 := List.append_inj h (by rw [heldBy_length, heldBy_length, keyBlock_length, keyBlock_length])
  exact ⟨heldBy_inj _ h2.1, h2.2⟩
/-- Keys with one block have one tag. -/
theorem mac_block {k l : List UInt8} (m : List UInt8) (h : keyBlock k = keyBlock l) : macOf k m = macOf l m := by
  rw [macOf, macOf, outerOf, outerOf, innerOf, innerOf, h]
theorem block_sum (k : List UInt8) (h : 64 < k.length) : keyBlock k = keyBlock (sum k) := by
  have h1 : keyHead k = sum k := if_pos h
  have h2 : keyHead (sum k) = sum k := if_neg (by rw [sum_length]; omega)
  rw [keyBlock, keyBlock, h1, h2]
theorem block_noughts (k : List UInt8) (n : Nat) (h : k.length + n ≤ 64) : keyBlock k = keyBlock (k ++ List.replicate n 0) := by
  have h1 : keyHead k = k := if_neg (by omega)
  have h2 : keyHead (k ++ List.replicate n 0) = k ++ List.replicate n 0 := if_neg (by rw [List.length_append, List.length_replicate]; omega)
  rw [keyBlock, keyBlock, h1, h2, List.append_assoc, List.replicate_append_replicate, List.length_append, List.length_replicate]
  congr 2
  omega
/-- The document's example. -/
def fox : List UInt8 := [0x54, 0x68, 0x65, 0x20, 0x71, 0x75, 0x69, 0x63, 0x6b, 0x20, 0x62, 0x72, 0x6f, 0x77, 0x6e, 0x20, 0x66, 0x6f, 0x78, 0x20, 0x6a, 0x75, 0x6d, 0x70, 0x73, 0x20, 0x6f, 0x76, 0x65, 0x72, 0x20, 0x74, 0x68, 0x65, 0x20, 0x6c, 0x61, 0x7a, 0x79, 0x20, 0x64, 0x6f, 0x67]
def foxKey : List UInt8 := [0x6b, 0x65, 0x79]
theorem mac_fox : (macOf foxKey fox).take 8 = [0xf7, 0xbc, 0x83, 0xf4, 0x30, 0x53, 0x84, 0x24] := by
  decide +kernel
end Go.Proofs.YtkidehngleglnaaGreatDoor
