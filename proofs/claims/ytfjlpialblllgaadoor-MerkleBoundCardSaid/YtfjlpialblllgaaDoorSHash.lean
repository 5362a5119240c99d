/- sha's Hash in memory: a block that has had a text; New, Len, Copy, Sum, and of none: the walks of their texts. -/
import Derived.Test.YtfjlpialblllgaaDoorSStep
import Derived.Test.YtfjlpialblllgaaDoorSPad
namespace Go.Proofs.YtfjlpialblllgaaDoor.SHash
open Go.RowKit
open SSpr SByt STurn SStep
/-- The cells of a hash: its state, its rest, how many bytes it has had. -/
def hCells (s : St) (r : List UInt8) (n : Nat) : List Value := .bool true :: ((stRow s).toList ++ ((bytesRow r).toList ++ [Value.int .i64 n]))
/-- The rest of a text: what is behind its whole blocks, and noughts. -/
def rest (l : List UInt8) : List UInt8 := l.drop (64 * (l.length / 64)) ++ List.replicate (64 - l.length % 64) 0
/-- Block 'b' holds a hash that has had the text 'l'. -/
def Has (w : World) (b : Nat) (l : List UInt8) : Prop := w.heap[b]? = some (.cells (hCells (blocks st0 (l.length / 64) l) (rest l) l.length).toArray 70 (0, 0))
theorem rest_length (l : List UInt8) : (rest l).length = 64 := by simp [rest]; omega
theorem hCells_length (s : St) (r : List UInt8) (n : Nat) (h : r.length = 64) : (hCells s r n).length = 74 := by simp [hCells, stRow, bytesRow, h]
theorem hCells_one (s : St) (r : List UInt8) (n : Nat) : (hCells s r n).toArray.all (·.oneCell') = true := by
  rw [Array.all_eq_true_iff_forall_mem]
  intro v hv
  simp only [hCells, stRow, bytesRow, List.mem_toArray, List.mem_cons, List.mem_append, List.mem_map, List.toList_toArray] at hv
  rcases hv with rfl | (rfl | rfl | rfl | rfl | rfl | rfl | rfl | rfl | hv) | ⟨x, _, rfl⟩ | rfl | hv <;> first | rfl | cases hv
theorem hCells_made (s : St) (r : List UInt8) (n : Nat) : (hCells s r n)[0]? = some (.bool true) := rfl
theorem hCells_now (s : St) (r : List UInt8) (n j : Nat) (v : Value) (h : (stRow s).toList[j]? = some v) : (hCells s r n)[1 + j]? = some v := by
  have hj : j < 8 := (List.getElem?_eq_some_iff.1 h).1
  rw [hCells, Nat.add_comm, List.getElem?_cons_succ, List.getElem?_append_left (by exact hj)]
  exact h
theorem hCells_rest (s : St) (r : List UInt8) (n j : Nat) (v : Value) (h : (bytesRow r).toList[j]? = some v) : (hCells s r n)[9 + j]? = some v := by
  have hj : j < (bytesRow r).toList.length := (List.getElem?_eq_some_iff.1 h).1
  rw [hCells, show 9 + j = (8 + j) + 1 from by omega, List.getElem?_cons_succ, List.getElem?_append_right (by show 8 ≤ 8 + j; omega), show 8 + j - (stRow s).toList.length = j from by show 8 + j - 8 = j; omega, List.getElem?_append_left hj]
  exact h
theorem hCells_size (s : St) (r : List UInt8) (n : Nat) (h : r.length = 64) : (hCells s r n)[73]? = some (.int .i64 n) := by
  have h1 : (bytesRow r).toList.length = 64 := by rw [Array.length_toList, bytesRow_size, h]
  rw [hCells, List.getElem?_cons_succ, List.getElem?_append_right (by show 8 ≤ 72; omega), show 72 - (stRow s).toList.length = 64 from rfl, List.getElem?_append_right (by omega), h1]
  rfl
theorem Has.made {w : World} {b : Nat} {l : List UInt8} (h : Has w b l) : w.cell? ⟨b, 0, none⟩ = some (.bool true) := blk_cell h (by simpa using hCells_made _ _ _)
theorem Has.now {w : World} {b : Nat} {l : List UInt8} (h : Has w b l) : w.rangeAt b 1 (stRow (blocks st0 (l.length / 64) l)).toList := fun j v hv => blk_cell h (by simpa using hCells_now _ _ _ j v hv)
theorem Has.rest_ {w : World} {b : Nat} {l : List UInt8} (h : Has w b l) : w.rangeAt b 9 (bytesRow (rest l)).toList := fun j v hv => blk_cell h (by simpa using hCells_rest _ _ _ j v hv)
theorem Has.size_ {w : World} {b : Nat} {l : List UInt8} (h : Has w b l) : w.cell? ⟨b, 73, none⟩ = some (.int .i64 l.length) := blk_cell h (by simpa using hCells_size _ _ _ (rest_length l))
theorem Has.lt {w : World} {b : Nat} {l : List UInt8} (h : Has w b l) : b < w.heap.size := (Array.getElem?_eq_some_iff.1 h).1
/-- All but block 'b' is as it was. -/
structure But (b : Nat) (w w' : World) : Prop where
  os : w'.os = w.os
  tape : w'.tape = w.tape
  output : w'.output = w.output
  size : w.heap.size ≤ w'.heap.size
  block : ∀ k, k < w.heap.size → k ≠ b → w'.heap[k]? = w.heap[k]?
theorem But.refl (b : Nat) (w : World) : But b w w := ⟨rfl, rfl, rfl, Nat.le_refl _, fun _ _ _ => rfl⟩
theorem But.of_below {b : Nat} {w w' : World} (h : Below w.heap.size w w') : But b w w' := ⟨h.os, h.tape, h.output, h.size, fun k hk _ => h.block k hk⟩
theorem But.trans {b : Nat} {u v w : World} (h : But b u v) (k : But b v w) : But b u w :=
  ⟨k.os.trans h.os, k.tape.trans h.tape, k.output.trans h.output, Nat.le_trans h.size k.size, fun i hi hb => (k.block i (Nat.lt_of_lt_of_le hi h.size) hb).trans (h.block i hi hb)⟩
theorem But.below {b B : Nat} {w w' : World} (h : But b w w') (hb : B ≤ b) (hB : B ≤ w.heap.size) : Below B w w' := ⟨h.os, h.tape, h.output, h.size, fun k hk => h.block k (by omega) (by omega)⟩
theorem But.set_ {b : Nat} {u w : World} (h : But b u w) (i : Nat) (v : Value) : But b u (w.setCell ⟨b, i, none⟩ v) :=
  h.trans ⟨rfl, rfl, rfl, by simp [World.setCell], fun k _ hk => Below.heap_setCell _ _ _ _ (by simpa using hk)⟩
theorem But.drewN {b : Nat} {u w : World} (h : But b u w) (n : Nat) : But b u (w.drewN n) := ⟨h.os, h.tape, h.output, h.size, h.block⟩
theorem But.setCells {b : Nat} {u w : World} (h : But b u w) (o : Nat) (vs : List Value) : But b u (w.setCells b o vs) := by
  induction vs generalizing o w with
  | nil => exact h
  | cons v r ih => exact ih (h.set_ o v) (o + 1)
theorem Has.other {w w' : World} {b c : Nat} {l : List UInt8} (h : Has w b l) (hb : But c w w') (hne : b ≠ c) : Has w' b l := (hb.block b h.lt hne).trans h
theorem Has.step {w w' : World} {b : Nat} {l : List UInt8} (h : Has w b l) (hb : Below w.heap.size w w') : Has w' b l := (hb.block b h.lt).trans h
theorem isNone_nil (w : World) : Calls Tryd.prog 41 #[.pointer none] w fun e w' => e = .returned (.bool true) ∧ w = w' := by
  go_enter Tryd.func41, Tryd.ntmps41
  go_wp2
  go_ret
  exact ⟨rfl, rfl⟩
theorem isNone_un (b : Nat) (w : World) (h : w.cell? ⟨b, 0, none⟩ = some (.bool false)) : Calls Tryd.prog 41 #[.pointer (some ⟨b, 0, none⟩)] w fun e w' => e = .returned (.bool true) ∧ w = w' := by
  go_enter Tryd.func41, Tryd.ntmps41
  go_wp2
  go_ret
  exact ⟨rfl, rfl⟩
theorem isNone_no (b : Nat) (w : World) (h : w.cell? ⟨b, 0, none⟩ = some (.bool true)) : Calls Tryd.prog 41 #[.pointer (some ⟨b, 0, none⟩)] w fun e w' => e = .returned (.bool false) ∧ w = w' := by
  go_enter Tryd.func41, Tryd.ntmps41
  go_wp2
  go_ret
  exact ⟨rfl, rfl⟩
/-- What New leaves. -/
def Made (w : World) (e : Ending) (w' : World) : Prop := ∃ b, e = .returned (.pointer (some ⟨b, 0, none⟩)) ∧ Has w' b [] ∧ Below w.heap.size w w' ∧ w.heap.size ≤ b
theorem New (w : World) : Calls Tryd.prog 27 #[] w (Made w) := by
  go_enter Tryd.func27, Tryd.ntmps27
  go_wp2_with (go_at_call 40; refine (SByt.first _).mono ?_; rintro e w1 ⟨rfl, hb1⟩)
  go_ret
  refine ⟨w1.heap.size, rfl, ?_, hb1.alloc hb1.size _, hb1.size⟩
  refine (heap_alloc_new w1 _).trans ?_
  kernel_rfl
/-- What Copy leaves. -/
def Copied (l : List UInt8) (w : World) (e : Ending) (w' : World) : Prop := ∃ c, e = .returned (.pointer (some ⟨c, 0, none⟩)) ∧ Has w' c l ∧ Below w.heap.size w w' ∧ w.heap.size ≤ c
theorem info53 : (Tryd.prog.info? 70).map (·.size) = some 74 := by kernel_rfl
/-- A part of a text over a row of bytes: what 'copy' does. -/
theorem run_copy_str {P : Program} (w : World) (dT sT ty elem : TypeId) (b o dLen dCap n : Nat) (t : List UInt8)
    (hu : P.underlying dT = some (.slice elem)) (hz : ∀ w, (Go.sizeOf elem).run P w = .ok 1 w) (hn : n = Nat.min t.length dLen)
    (hc : ∀ j, j < n → (w.cell? ⟨b, o + j, none⟩).isSome = true) (hf : ∀ j, j < n → w.frozen? ⟨b, o + j, none⟩ = false) :
    (Builtin.copy_ #[dT, sT] ty #[.slice (some ⟨b, o, none⟩) dLen dCap, .string ⟨t.toArray⟩]).run P w = .ok (goInt n) (w.setCells b o ((t.take n).map fun x => Value.int .u8 (x.toNat : Int))) := by
  have hmin : Nat.min t.length dLen = n := hn.symm
  have hle : n ≤ t.length := by rw [hn]; exact Nat.min_le_left _ _
  have hl : ((t.take n).map fun x : UInt8 => Value.int .u8 (x.toNat : Int)).length = n := by rw [List.length_map, List.length_take, Nat.min_eq_left hle]
  have hst := run_storeCells_cells (P := P) b o ((t.take n).map fun x => Value.int .u8 (x.toNat : Int)) 0 w (by rw [hl]; simpa using hc) (by rw [hl]; simpa using hf) (by
    intro v hv
    obtain ⟨x, _, rfl⟩ := List.mem_map.1 hv
    rfl)
  simp [Builtin.copy_, run_underlying hu, Builtin.lenOf, Builtin.firstCells, hz]
  rw [show (⟨t.toArray⟩ : ByteArray).size = t.length from rfl, hmin, ← List.map_take, hst, Nat.add_zero]
  rfl
end Go.Proofs.YtfjlpialblllgaaDoor.SHash
