/- Small facts on memory: a block that is known whole; a row of bytes turned into a text. No conditions but those that each lemma names. -/
import Derived.WalkKit
import Derived.Below
import Derived.Laws.BytesArg
import Derived.Lib.Hide
namespace Go.Proofs.Yteepbebpcjapmaa
open Go.RowKit
theorem blk_set {w : World} {g i : Nat} {cs : Array Value} {t : TypeId} {f : Nat × Nat} {u : Value} (h : w.heap[g]? = some (.cells cs t f)) :
    (w.setCell ⟨g, i, none⟩ u).heap[g]? = some (.cells (cs.setIfInBounds i u) t f) := by
  simp [World.setCell, Array.getElem?_modify, h]
theorem blk_free {w : World} {g i : Nat} {cs : Array Value} {t : TypeId} (h : w.heap[g]? = some (.cells cs t (0, 0))) : w.frozen? ⟨g, i, none⟩ = false := by
  simp [World.frozen?, h]
theorem blk_cell {w : World} {g i : Nat} {cs : Array Value} {t : TypeId} {f : Nat × Nat} {u : Value} (h : w.heap[g]? = some (.cells cs t f)) (hu : cs[i]? = some u) : w.cell? ⟨g, i, none⟩ = some u := by
  rw [cell_of_row w g i cs t f h, hu]
/-- The cells of a row of bytes. -/
def bytesRow (l : List UInt8) : Array Value := (l.map fun b : UInt8 => Value.int .u8 b.toNat).toArray
theorem bytesRow_size (l : List UInt8) : (bytesRow l).size = l.length := by simp [bytesRow]
theorem bytesRow_at (l : List UInt8) (i : Nat) (h : i < l.length) : (bytesRow l)[i]? = some (.int .u8 l[i].toNat) := by simp [bytesRow, h]
theorem bytesRow_set (l : List UInt8) (i : Nat) (b : UInt8) : (bytesRow l).setIfInBounds i (.int .u8 b.toNat) = bytesRow (l.set i b) := by
  simp [bytesRow, List.map_set]
theorem nums_bytes (l : List UInt8) : strOfNums (l.map fun b => (b.toNat : Int)) = ⟨l.toArray⟩ := by
  simp [strOfNums, List.map_map, Function.comp_def]
theorem conv_row {P : Program} {w : World} {src dst e : TypeId} (hs : P.underlying src = some (.slice e)) (he : P.underlying e = some (.int .u8)) (hd : P.underlying dst = some .string)
    {g t len cap : Nat} {f : Nat × Nat} {l m : List UInt8} (h : w.heap[g]? = some (.cells (bytesRow (l ++ m)) t f)) (hl : l.length = len) :
    (convert src dst (.slice (some ⟨g, 0, none⟩) len cap)).run P w = .ok (.string ⟨l.toArray⟩) w := by
  rw [← nums_bytes]
  refine run_convert_bytes_arg w src e hs he g 0 len cap (l.map fun b => (b.toNat : Int)) (by simpa using hl) (fun i hi => ?_) dst hd
  rw [Nat.zero_add]
  have hi' : i < (l ++ m).length := by simp; omega
  rw [blk_cell h (bytesRow_at _ i hi')]
  simp [hl, hi, List.getD]
theorem one_byte (m : Nat) : #[Value.int .u8 ((m : Int) % 256)] = bytesRow ([UInt8.ofNat m] ++ []) := by
  simp [bytesRow]
theorem made_bytes (k : Nat) : madeCells #[Value.int .u8 0] k = bytesRow (List.replicate k 0) := by
  have h0 : ∀ i, i % 1 = 0 := fun i => by omega
  simp [bytesRow, madeCells, Array.ext_iff, h0]
end Go.Proofs.Yteepbebpcjapmaa
