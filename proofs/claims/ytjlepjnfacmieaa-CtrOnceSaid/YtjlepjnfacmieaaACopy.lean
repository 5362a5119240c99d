/- Small facts on memory: a text copied over a row of bytes, cells set one by one. No conditions but those that each lemma names. -/
import Derived.Test.YtjlepjnfacmieaaMem
import Derived.Test.YtjlepjnfacmieaaRows
import Derived.Deep.MidRow
namespace Go.Proofs.Ytjlepjnfacmieaa.ACopy
open Go.RowKit
def bl (r : List UInt8) : List Value := r.map fun x : UInt8 => Value.int .u8 (x.toNat : Int)
theorem bytes_bl (r : List UInt8) : (bytesRow r).toList = bl r := by simp [bytesRow, bl]
/-- A part of a text over a row of bytes: what 'copy' does. -/
theorem run_copy_str {P : Program} (w : World) (dT sT ty elem : TypeId) (b o dLen dCap n : Nat) (t : List UInt8)
    (hu : P.underlying dT = some (.slice elem)) (hz : ∀ w, (Go.sizeOf elem).run P w = .ok 1 w) (hn : n = Nat.min t.length dLen)
    (hc : ∀ j, j < n → (w.cell? ⟨b, o + j, none⟩).isSome = true) (hf : ∀ j, j < n → w.frozen? ⟨b, o + j, none⟩ = false) :
    (Builtin.copy_ #[dT, sT] ty #[.slice (some ⟨b, o, none⟩) dLen dCap, .string ⟨t.toArray⟩]).run P w = .ok (goInt n) (w.setCells b o ((t.take n).map fun x => Value.int .u8 (x.toNat : Int))) := by
  have hmin : Nat.min t.length dLen = n := hn.symm
  have hle : n ≤ t.length := by rw [hn]; exact Nat.min_le_left _ _
  have hl : ((t.take n).map fun x : UInt8 => Value.int .u8 (x.toNat : Int)).length = n := by rw [List.length_map, List.length_take, Nat.min_eq_left hle]
  have hst := run_storeCells_cells (P := P) b o ((t.take n).map fun x => Value.int .u8 (x.toNat : Int)) 0 w (by rw [hl]; simpa using hc) (by rw [hl]; simpa using hf) (by
    intro v hv
    obtain ⟨x, _, rfl⟩ := List.mem_map.1 hv
    rfl)
  simp [Builtin.copy_, run_underlying hu, Builtin.lenOf, Builtin.firstCells, hz]
  rw [show (⟨t.toArray⟩ : ByteArray).size = t.length from rfl, hmin, ← List.map_take, hst, Nat.add_zero]
  rfl
/-- Cells set one by one in a block that is known whole. -/
theorem setCells_blk {b : Nat} {t : TypeId} {f : Nat × Nat} : ∀ (vs : List Value) (o : Nat) (cs : List Value) (w : World), w.heap[b]? = some (.cells cs.toArray t f) → o + vs.length ≤ cs.length →
    (w.setCells b o vs).heap[b]? = some (.cells (cs.take o ++ vs ++ cs.drop (o + vs.length)).toArray t f)
  | [], o, cs, w, h, _ => by rw [World.setCells, h]; simp
  | v :: vs, o, cs, w, h, hl => by
    have hl' : o + 1 + vs.length ≤ cs.length := by simp at hl; omega
    have h1 : (w.setCell ⟨b, o, none⟩ v).heap[b]? = some (.cells (cs.set o v).toArray t f) := by
      rw [blk_set h]; simp
    have ih := setCells_blk vs (o + 1) (cs.set o v) (w.setCell ⟨b, o, none⟩ v) h1 (by simpa using hl')
    rw [World.setCells, ih]
    congr 3
    have a1 : (cs.set o v).take (o + 1) = cs.take o ++ [v] := by
      rw [List.take_succ_eq_append_getElem (by rw [List.length_set]; omega), List.getElem_set_self]
      congr 1
      apply List.ext_getElem?
      intro i
      simp only [List.getElem?_take, List.getElem?_set]
      by_cases hi : i < o
      · rw [if_pos hi, if_pos hi, if_neg (by omega)]
      · rw [if_neg hi, if_neg hi]
    have a2 : (cs.set o v).drop (o + 1 + vs.length) = cs.drop (o + 1 + vs.length) := by
      apply List.ext_getElem?
      intro i
      rw [List.getElem?_drop, List.getElem?_drop, List.getElem?_set, if_neg (by omega)]
    rw [a1, a2, List.length_cons, show o + 1 + vs.length = o + (vs.length + 1) from by omega]
    simp
theorem wpList_copy_str {P : Program} {w : World} {ops : Array Oper} {rest : List Oper} {o : Oper} {a : Act} {Q : Exit → Act → World → Prop} (hgd : o.guard = none) (d x : Operand) (dT sT : TypeId)
    (ho : o.op = .call { callee := .builtin .copy, args := #[d, x], argTypes := #[dT, sT] }) (elem : TypeId) (hu : P.underlying dT = some (.slice elem)) (hz : ∀ w, (Go.sizeOf elem).run P w = .ok 1 w)
    (b off dLen dCap n : Nat) (t : List UInt8) (hd : a.eval d = .slice (some ⟨b, off, none⟩) dLen dCap) (hx : a.eval x = .string ⟨t.toArray⟩) (hn : n = Nat.min t.length dLen)
    (hc : ∀ j, j < n → (w.cell? ⟨b, off + j, none⟩).isSome = true) (hf : ∀ j, j < n → w.frozen? ⟨b, off + j, none⟩ = false)
    (h : wpList P ops Q rest (a.put o.dst (goInt n)) (w.setCells b off (bl (t.take n)))) : wpList P ops Q (o :: rest) a w :=
  wpList_plain hgd fun _ hK => by
    have hrun : (Builtin.copy_ #[dT, sT] o.type #[.slice (some ⟨b, off, none⟩) dLen dCap, .string ⟨t.toArray⟩]).run P w = .ok (goInt n) (w.setCells b off (bl (t.take n))) := run_copy_str (P := P) w dT sT o.type elem b off dLen dCap n t hu hz hn hc hf
    unfold Oper.wp
    simp [execOp, ho, resolve, invoke, builtin, hd, hx, hrun, Result.andThen]
    exact hK _ _ h
theorem there_of {w : World} {b : Nat} {cs : List Value} {t : TypeId} {o n : Nat} (h : w.heap[b]? = some (.cells cs.toArray t (0, 0))) (hl : o + n ≤ cs.length) : w.there b o n := fun j hj => by
  refine ⟨?_, blk_free h⟩
  rw [blk_cell h (show cs.toArray[o + j]? = some (cs[o + j]'(by omega)) from by simp)]
  rfl
theorem below_setCells {b : Nat} {u : World} {g : Nat} (hg : b ≤ g) : ∀ (vs : List Value) (o : Nat) (w : World), Below b u w → Below b u (w.setCells g o vs)
  | [], _, _, h => h
  | v :: vs, o, _, h => below_setCells hg vs (o + 1) _ (h.setCell hg v)
end Go.Proofs.Ytjlepjnfacmieaa.ACopy
