/- Plain facts on a hash's cells when a part of a text is laid behind its rest. No conditions but those that each lemma names. -/
import Derived.Test.YtfjlpialblllgaaDoorSHash
namespace Go.Proofs.YtfjlpialblllgaaDoor
open SHash STurn SSpr
/-- The rest with 'x' laid behind its 'k' bytes. -/
def laid (r : List UInt8) (k : Nat) (x : List UInt8) : List UInt8 := r.take k ++ x ++ r.drop (k + x.length)
theorem laid_length (r : List UInt8) (k : Nat) (x : List UInt8) (hr : r.length = 64) (h : k + x.length ≤ 64) : (laid r k x).length = 64 := by
  simp [laid, hr]; omega
theorem laid_rest (L x : List UInt8) (h : L.length % 64 + x.length ≤ 64) : laid (rest L) (L.length % 64) x = L.drop (64 * (L.length / 64)) ++ x ++ List.replicate (64 - (L.length % 64 + x.length)) 0 := by
  have hd : (L.drop (64 * (L.length / 64))).length = L.length % 64 := by simp; omega
  unfold laid rest
  generalize L.drop (64 * (L.length / 64)) = D at *
  generalize L.length % 64 = k at *
  rw [List.take_append_of_le_length (by omega), List.take_of_length_le (by omega), List.drop_append, show D.drop (k + x.length) = [] from List.drop_eq_nil_of_le (by omega), List.nil_append, List.drop_replicate, hd]
  congr 2
  omega
theorem blocks_last (s : St) (n : Nat) (l : List UInt8) : blocks s (n + 1) l = turnSt (blocks s n l) ((l.drop (64 * n)).take 64) := by
  induction n generalizing s l with
  | zero => simp [blocks]
  | succ n ih =>
    rw [blocks, ih, blocks, List.drop_drop, show 64 + 64 * n = 64 * (n + 1) from by omega]
theorem less (L x : List UInt8) (h : L.length % 64 + x.length < 64) :
    hCells (blocks st0 ((L ++ x).length / 64) (L ++ x)) (rest (L ++ x)) (L ++ x).length = hCells (blocks st0 (L.length / 64) L) (laid (rest L) (L.length % 64) x) (L.length + x.length) := by
  have e1 : (L ++ x).length / 64 = L.length / 64 := by rw [List.length_append]; omega
  have e2 : (L ++ x).length % 64 = L.length % 64 + x.length := by rw [List.length_append]; omega
  have e3 : rest (L ++ x) = laid (rest L) (L.length % 64) x := by
    rw [laid_rest L x (by omega), rest, e1, e2, List.drop_append_of_le_length (by omega)]
  rw [e3, e1, blocks_more _ _ _ _ (by omega), List.length_append]
theorem full (L x : List UInt8) (h : L.length % 64 + x.length = 64) :
    hCells (blocks st0 ((L ++ x).length / 64) (L ++ x)) (rest (L ++ x)) (L ++ x).length = hCells (turnSt (blocks st0 (L.length / 64) L) (laid (rest L) (L.length % 64) x)) (List.replicate 64 0) (L.length + x.length) := by
  have e1 : (L ++ x).length / 64 = L.length / 64 + 1 := by rw [List.length_append]; omega
  have e2 : (L ++ x).length % 64 = 0 := by rw [List.length_append]; omega
  have e3 : rest (L ++ x) = List.replicate 64 0 := by
    rw [rest, e1, e2, List.drop_eq_nil_of_le (by rw [List.length_append]; omega)]
    rfl
  have e4 : ((L ++ x).drop (64 * (L.length / 64))).take 64 = laid (rest L) (L.length % 64) x := by
    rw [laid_rest L x (by omega), List.drop_append_of_le_length (by omega), h]
    rw [List.take_of_length_le (by simp; omega)]
    simp
  rw [e3, e1, blocks_last, e4, blocks_more _ _ _ _ (by omega), List.length_append]
/-- Cells set one by one in a block that is known whole. -/
theorem setCells_blk {b : Nat} {t : TypeId} {f : Nat × Nat} : ∀ (vs : List Value) (o : Nat) (cs : List Value) (w : World), w.heap[b]? = some (.cells cs.toArray t f) → o + vs.length ≤ cs.length →
    (w.setCells b o vs).heap[b]? = some (.cells (cs.take o ++ vs ++ cs.drop (o + vs.length)).toArray t f)
  | [], o, cs, w, h, _ => by rw [World.setCells, h]; simp
  | v :: vs, o, cs, w, h, hl => by
    have hl' : o + 1 + vs.length ≤ cs.length := by simp at hl; omega
    have h1 : (w.setCell ⟨b, o, none⟩ v).heap[b]? = some (.cells (cs.set o v).toArray t f) := by
      rw [blk_set h]; simp
    have ih := setCells_blk vs (o + 1) (cs.set o v) (w.setCell ⟨b, o, none⟩ v) h1 (by simpa using hl')
    rw [World.setCells, ih]
    congr 3
    have a1 : (cs.set o v).take (o + 1) = cs.take o ++ [v] := by
      rw [List.take_succ_eq_append_getElem (by rw [List.length_set]; omega), List.getElem_set_self]
      congr 1
      apply List.ext_getElem?
      intro i
      simp only [List.getElem?_take, List.getElem?_set]
      by_cases hi : i < o
      · rw [if_pos hi, if_pos hi, if_neg (by omega)]
      · rw [if_neg hi, if_neg hi]
    have a2 : (cs.set o v).drop (o + 1 + vs.length) = cs.drop (o + 1 + vs.length) := by
      apply List.ext_getElem?
      intro i
      rw [List.getElem?_drop, List.getElem?_drop, List.getElem?_set, if_neg (by omega)]
    rw [a1, a2, List.length_cons, show o + 1 + vs.length = o + (vs.length + 1) from by omega]
    simp
def bl (r : List UInt8) : List Value := r.map fun x : UInt8 => Value.int .u8 (x.toNat : Int)
theorem bytes_bl (r : List UInt8) : (bytesRow r).toList = bl r := by simp [bytesRow, bl]
def h9 (s : St) : List Value := .bool true :: (stRow s).toList
theorem h9_length (s : St) : (h9 s).length = 9 := rfl
theorem hCells_h9 (s : St) (r : List UInt8) (n : Nat) : hCells s r n = h9 s ++ (bl r ++ [Value.int .i64 n]) := by rw [hCells, bytes_bl]; rfl
theorem bl_length (r : List UInt8) : (bl r).length = r.length := by simp [bl]
theorem bl_append (r x : List UInt8) : bl (r ++ x) = bl r ++ bl x := by simp [bl]
theorem splice (s : St) (r x : List UInt8) (n k : Nat) (hr : r.length = 64) (h : k + x.length ≤ 64) :
    (hCells s r n).take (9 + k) ++ bl x ++ (hCells s r n).drop (9 + k + (bl x).length) = hCells s (laid r k x) n := by
  rw [hCells_h9, hCells_h9, bl_length, laid, bl_append, bl_append]
  have e1 : (h9 s ++ (bl r ++ [Value.int .i64 n])).take (9 + k) = h9 s ++ bl (r.take k) := by
    rw [List.take_append, List.take_of_length_le (by rw [h9_length]; omega), h9_length, show 9 + k - 9 = k from by omega, List.take_append_of_le_length (by rw [bl_length]; omega)]
    simp [bl, List.map_take]
  have e2 : (h9 s ++ (bl r ++ [Value.int .i64 n])).drop (9 + k + x.length) = bl (r.drop (k + x.length)) ++ [Value.int .i64 n] := by
    rw [List.drop_append, List.drop_eq_nil_of_le (by rw [h9_length]; omega), h9_length, show 9 + k + x.length - 9 = k + x.length from by omega, List.drop_append_of_le_length (by rw [bl_length]; omega)]
    simp [bl, List.map_drop]
  rw [e1, e2]
  simp [List.append_assoc]
theorem set_size (s : St) (r : List UInt8) (n m : Nat) (hr : r.length = 64) : (hCells s r n).set 73 (.int .i64 (m : Int)) = hCells s r m := by
  rw [hCells_h9, hCells_h9, List.set_append_right _ _ (by rw [h9_length]; omega), h9_length, List.set_append_right _ _ (by rw [bl_length]; omega), bl_length, hr]
  rfl
theorem set_now (s t : St) (r : List UInt8) (n : Nat) : (hCells s r n).take 1 ++ (stRow t).toList ++ (hCells s r n).drop (1 + (stRow t).toList.length) = hCells t r n := by
  rw [hCells_h9, hCells_h9]; rfl
theorem set_rest (s : St) (r x : List UInt8) (n : Nat) (hr : r.length = 64) (hx : x.length = 64) :
    (hCells s r n).take 9 ++ bl x ++ (hCells s r n).drop (9 + (bl x).length) = hCells s x n := by
  have := splice s r x n 0 hr (by omega)
  rw [Nat.add_zero] at this
  rw [this, laid, hx, List.drop_eq_nil_of_le (by omega)]
  simp
end Go.Proofs.YtfjlpialblllgaaDoor
