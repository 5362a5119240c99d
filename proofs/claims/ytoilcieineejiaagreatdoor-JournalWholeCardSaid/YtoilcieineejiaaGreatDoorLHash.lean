/- SHash SPutN SPut SSum: one behind the other. -/
import Derived.Test.YtoilcieineejiaaGreatDoorLStep
import Derived.Test.YtoilcieineejiaaGreatDoorSPad
import Derived.Deep.RegionLaw
import Derived.BigRegion
import Derived.StillTailTactics
/- sha's Hash in memory: a block that has had a text; New, Len, Copy, Sum, and of none: the walks of their texts. -/
namespace Go.Proofs.YtoilcieineejiaaGreatDoor.SHash
open Go.RowKit
open SSpr SByt STurn SStep
/-- The cells of a hash: its state, its rest, how many bytes it has had. -/
def hCells (s : St) (r : List UInt8) (n : Nat) : List Value := .bool true :: ((stRow s).toList ++ ((bytesRow r).toList ++ [Value.int .i64 n]))
/-- The rest of a text: what is behind its whole blocks, and noughts. -/
def rest (l : List UInt8) : List UInt8 := l.drop (64 * (l.length / 64)) ++ List.replicate (64 - l.length % 64) 0
/-- Block 'b' holds a hash that has had the text 'l'. -/
def Has (w : World) (b : Nat) (l : List UInt8) : Prop := w.heap[b]? = some (.cells (hCells (blocks st0 (l.length / 64) l) (rest l) l.length).toArray 185 (0, 0))
theorem rest_length (l : List UInt8) : (rest l).length = 64 := by simp [rest]; omega
theorem hCells_length (s : St) (r : List UInt8) (n : Nat) (h : r.length = 64) : (hCells s r n).length = 74 := by simp [hCells, stRow, bytesRow, h]
theorem hCells_one (s : St) (r : List UInt8) (n : Nat) : (hCells s r n).toArray.all (·.oneCell') = true := by
  rw [Array.all_eq_true_iff_forall_mem]
  intro v hv
  simp only [hCells, stRow, bytesRow, List.mem_toArray, List.mem_cons, List.mem_append, List.mem_map, List.toList_toArray] at hv
  rcases hv with rfl | (rfl | rfl | rfl | rfl | rfl | rfl | rfl | rfl | hv) | ⟨x, _, rfl⟩ | rfl | hv <;> first | rfl | cases hv
theorem hCells_made (s : St) (r : List UInt8) (n : Nat) : (hCells s r n)[0]? = some (.bool true) := rfl
theorem hCells_now (s : St) (r : List UInt8) (n j : Nat) (v : Value) (h : (stRow s).toList[j]? = some v) : (hCells s r n)[1 + j]? = some v := by
  have hj : j < 8 := (List.getElem?_eq_some_iff.1 h).1
  rw [hCells, Nat.add_comm, List.getElem?_cons_succ, List.getElem?_append_left (by exact hj)]
  exact h
theorem hCells_rest (s : St) (r : List UInt8) (n j : Nat) (v : Value) (h : (bytesRow r).toList[j]? = some v) : (hCells s r n)[9 + j]? = some v := by
  have hj : j < (bytesRow r).toList.length := (List.getElem?_eq_some_iff.1 h).1
  rw [hCells, show 9 + j = (8 + j) + 1 from by omega, List.getElem?_cons_succ, List.getElem?_append_right (by show 8 ≤ 8 + j; omega), show 8 + j - (stRow s).toList.length = j from by show 8 + j - 8 = j; omega, List.getElem?_append_left hj]
  exact h
theorem hCells_size (s : St) (r : List UInt8) (n : Nat) (h : r.length = 64) : (hCells s r n)[73]? = some (.int .i64 n) := by
  have h1 : (bytesRow r).toList.length = 64 := by rw [Array.length_toList, bytesRow_size, h]
  rw [hCells, List.getElem?_cons_succ, List.getElem?_append_right (by show 8 ≤ 72; omega), show 72 - (stRow s).toList.length = 64 from rfl, List.getElem?_append_right (by omega), h1]
  rfl
theorem Has.made {w : World} {b : Nat} {l : List UInt8} (h : Has w b l) : w.cell? ⟨b, 0, none⟩ = some (.bool true) := blk_cell h (by simpa using hCells_made _ _ _)
theorem Has.now {w : World} {b : Nat} {l : List UInt8} (h : Has w b l) : w.rangeAt b 1 (stRow (blocks st0 (l.length / 64) l)).toList := fun j v hv => blk_cell h (by simpa using hCells_now _ _ _ j v hv)
theorem Has.rest_ {w : World} {b : Nat} {l : List UInt8} (h : Has w b l) : w.rangeAt b 9 (bytesRow (rest l)).toList := fun j v hv => blk_cell h (by simpa using hCells_rest _ _ _ j v hv)
theorem Has.size_ {w : World} {b : Nat} {l : List UInt8} (h : Has w b l) : w.cell? ⟨b, 73, none⟩ = some (.int .i64 l.length) := blk_cell h (by simpa using hCells_size _ _ _ (rest_length l))
theorem Has.lt {w : World} {b : Nat} {l : List UInt8} (h : Has w b l) : b < w.heap.size := (Array.getElem?_eq_some_iff.1 h).1
/-- All but block 'b' is as it was. -/
structure But (b : Nat) (w w' : World) : Prop where
  os : w'.os = w.os
  tape : w'.tape = w.tape
  output : w'.output = w.output
  size : w.heap.size ≤ w'.heap.size
  block : ∀ k, k < w.heap.size → k ≠ b → w'.heap[k]? = w.heap[k]?
theorem But.refl (b : Nat) (w : World) : But b w w := ⟨rfl, rfl, rfl, Nat.le_refl _, fun _ _ _ => rfl⟩
theorem But.of_below {b : Nat} {w w' : World} (h : Below w.heap.size w w') : But b w w' := ⟨h.os, h.tape, h.output, h.size, fun k hk _ => h.block k hk⟩
theorem But.trans {b : Nat} {u v w : World} (h : But b u v) (k : But b v w) : But b u w :=
  ⟨k.os.trans h.os, k.tape.trans h.tape, k.output.trans h.output, Nat.le_trans h.size k.size, fun i hi hb => (k.block i (Nat.lt_of_lt_of_le hi h.size) hb).trans (h.block i hi hb)⟩
theorem But.below {b B : Nat} {w w' : World} (h : But b w w') (hb : B ≤ b) (hB : B ≤ w.heap.size) : Below B w w' := ⟨h.os, h.tape, h.output, h.size, fun k hk => h.block k (by omega) (by omega)⟩
theorem But.set_ {b : Nat} {u w : World} (h : But b u w) (i : Nat) (v : Value) : But b u (w.setCell ⟨b, i, none⟩ v) :=
  h.trans ⟨rfl, rfl, rfl, by simp [World.setCell], fun k _ hk => Below.heap_setCell _ _ _ _ (by simpa using hk)⟩
theorem But.drewN {b : Nat} {u w : World} (h : But b u w) (n : Nat) : But b u (w.drewN n) := ⟨h.os, h.tape, h.output, h.size, h.block⟩
theorem But.setCells {b : Nat} {u w : World} (h : But b u w) (o : Nat) (vs : List Value) : But b u (w.setCells b o vs) := by
  induction vs generalizing o w with
  | nil => exact h
  | cons v r ih => exact ih (h.set_ o v) (o + 1)
theorem Has.other {w w' : World} {b c : Nat} {l : List UInt8} (h : Has w b l) (hb : But c w w') (hne : b ≠ c) : Has w' b l := (hb.block b h.lt hne).trans h
theorem Has.step {w w' : World} {b : Nat} {l : List UInt8} (h : Has w b l) (hb : Below w.heap.size w w') : Has w' b l := (hb.block b h.lt).trans h
theorem isNone_nil (w : World) : Calls Tryz.prog 136 #[.pointer none] w fun e w' => e = .returned (.bool true) ∧ w = w' := by
  go_enter Tryz.func136, Tryz.ntmps136
  go_wp2
  go_ret
  exact ⟨rfl, rfl⟩
theorem isNone_un (b : Nat) (w : World) (h : w.cell? ⟨b, 0, none⟩ = some (.bool false)) : Calls Tryz.prog 136 #[.pointer (some ⟨b, 0, none⟩)] w fun e w' => e = .returned (.bool true) ∧ w = w' := by
  go_enter Tryz.func136, Tryz.ntmps136
  go_wp2
  go_ret
  exact ⟨rfl, rfl⟩
theorem isNone_no (b : Nat) (w : World) (h : w.cell? ⟨b, 0, none⟩ = some (.bool true)) : Calls Tryz.prog 136 #[.pointer (some ⟨b, 0, none⟩)] w fun e w' => e = .returned (.bool false) ∧ w = w' := by
  go_enter Tryz.func136, Tryz.ntmps136
  go_wp2
  go_ret
  exact ⟨rfl, rfl⟩
/-- What New leaves. -/
def Made (w : World) (e : Ending) (w' : World) : Prop := ∃ b, e = .returned (.pointer (some ⟨b, 0, none⟩)) ∧ Has w' b [] ∧ Below w.heap.size w w' ∧ w.heap.size ≤ b
theorem New (w : World) : Calls Tryz.prog 114 #[] w (Made w) := by
  go_enter Tryz.func114, Tryz.ntmps114
  go_wp2_with (go_at_call 135; refine (SByt.first _).mono ?_; rintro e w1 ⟨rfl, hb1⟩)
  go_ret
  refine ⟨w1.heap.size, rfl, ?_, hb1.alloc hb1.size _, hb1.size⟩
  refine (heap_alloc_new w1 _).trans ?_
  kernel_rfl
/-- What Copy leaves. -/
def Copied (l : List UInt8) (w : World) (e : Ending) (w' : World) : Prop := ∃ c, e = .returned (.pointer (some ⟨c, 0, none⟩)) ∧ Has w' c l ∧ Below w.heap.size w w' ∧ w.heap.size ≤ c
theorem info53 : (Tryz.prog.info? 185).map (·.size) = some 74 := by kernel_rfl
/-- A part of a text over a row of bytes: what 'copy' does. -/
theorem run_copy_str {P : Program} (w : World) (dT sT ty elem : TypeId) (b o dLen dCap n : Nat) (t : List UInt8)
    (hu : P.underlying dT = some (.slice elem)) (hz : ∀ w, (Go.sizeOf elem).run P w = .ok 1 w) (hn : n = Nat.min t.length dLen)
    (hc : ∀ j, j < n → (w.cell? ⟨b, o + j, none⟩).isSome = true) (hf : ∀ j, j < n → w.frozen? ⟨b, o + j, none⟩ = false) :
    (Builtin.copy_ #[dT, sT] ty #[.slice (some ⟨b, o, none⟩) dLen dCap, .string ⟨t.toArray⟩]).run P w = .ok (goInt n) (w.setCells b o ((t.take n).map fun x => Value.int .u8 (x.toNat : Int))) := by
  have hmin : Nat.min t.length dLen = n := hn.symm
  have hle : n ≤ t.length := by rw [hn]; exact Nat.min_le_left _ _
  have hl : ((t.take n).map fun x : UInt8 => Value.int .u8 (x.toNat : Int)).length = n := by rw [List.length_map, List.length_take, Nat.min_eq_left hle]
  have hst := run_storeCells_cells (P := P) b o ((t.take n).map fun x => Value.int .u8 (x.toNat : Int)) 0 w (by rw [hl]; simpa using hc) (by rw [hl]; simpa using hf) (by
    intro v hv
    obtain ⟨x, _, rfl⟩ := List.mem_map.1 hv
    rfl)
  simp [Builtin.copy_, run_underlying hu, Builtin.lenOf, Builtin.firstCells, hz]
  rw [show (⟨t.toArray⟩ : ByteArray).size = t.length from rfl, hmin, ← List.map_take, hst, Nat.add_zero]
  rfl
end Go.Proofs.YtoilcieineejiaaGreatDoor.SHash
/- Plain facts on a hash's cells when a part of a text is laid behind its rest. No conditions but those that each lemma names. -/
namespace Go.Proofs.YtoilcieineejiaaGreatDoor
open SHash STurn SSpr
/-- The rest with 'x' laid behind its 'k' bytes. -/
def laid (r : List UInt8) (k : Nat) (x : List UInt8) : List UInt8 := r.take k ++ x ++ r.drop (k + x.length)
theorem laid_length (r : List UInt8) (k : Nat) (x : List UInt8) (hr : r.length = 64) (h : k + x.length ≤ 64) : (laid r k x).length = 64 := by
  simp [laid, hr]; omega
theorem laid_rest (L x : List UInt8) (h : L.length % 64 + x.length ≤ 64) : laid (rest L) (L.length % 64) x = L.drop (64 * (L.length / 64)) ++ x ++ List.replicate (64 - (L.length % 64 + x.length)) 0 := by
  have hd : (L.drop (64 * (L.length / 64))).length = L.length % 64 := by simp; omega
  unfold laid rest
  generalize L.drop (64 * (L.length / 64)) = D at *
  generalize L.length % 64 = k at *
  rw [List.take_append_of_le_length (by omega), List.take_of_length_le (by omega), List.drop_append, show D.drop (k + x.length) = [] from List.drop_eq_nil_of_le (by omega), List.nil_append, List.drop_replicate, hd]
  congr 2
  omega
theorem blocks_last (s : St) (n : Nat) (l : List UInt8) : blocks s (n + 1) l = turnSt (blocks s n l) ((l.drop (64 * n)).take 64) := by
  induction n generalizing s l with
  | zero => simp [blocks]
  | succ n ih =>
    rw [blocks, ih, blocks, List.drop_drop, show 64 + 64 * n = 64 * (n + 1) from by omega]
theorem less (L x : List UInt8) (h : L.length % 64 + x.length < 64) :
    hCells (blocks st0 ((L ++ x).length / 64) (L ++ x)) (rest (L ++ x)) (L ++ x).length = hCells (blocks st0 (L.length / 64) L) (laid (rest L) (L.length % 64) x) (L.length + x.length) := by
  have e1 : (L ++ x).length / 64 = L.length / 64 := by rw [List.length_append]; omega
  have e2 : (L ++ x).length % 64 = L.length % 64 + x.length := by rw [List.length_append]; omega
  have e3 : rest (L ++ x) = laid (rest L) (L.length % 64) x := by
    rw [laid_rest L x (by omega), rest, e1, e2, List.drop_append_of_le_length (by omega)]
  rw [e3, e1, blocks_more _ _ _ _ (by omega), List.length_append]
theorem full (L x : List UInt8) (h : L.length % 64 + x.length = 64) :
    hCells (blocks st0 ((L ++ x).length / 64) (L ++ x)) (rest (L ++ x)) (L ++ x).length = hCells (turnSt (blocks st0 (L.length / 64) L) (laid (rest L) (L.length % 64) x)) (List.replicate 64 0) (L.length + x.length) := by
  have e1 : (L ++ x).length / 64 = L.length / 64 + 1 := by rw [List.length_append]; omega
  have e2 : (L ++ x).length % 64 = 0 := by rw [List.length_append]; omega
  have e3 : rest (L ++ x) = List.replicate 64 0 := by
    rw [rest, e1, e2, List.drop_eq_nil_of_le (by rw [List.length_append]; omega)]
    rfl
  have e4 : ((L ++ x).drop (64 * (L.length / 64))).take 64 = laid (rest L) (L.length % 64) x := by
    rw [laid_rest L x (by omega), List.drop_append_of_le_length (by omega), h]
    rw [List.take_of_length_le (by simp; omega)]
    simp
  rw [e3, e1, blocks_last, e4, blocks_more _ _ _ _ (by omega), List.length_append]
/-- Cells set one by one in a block that is known whole. -/
theorem setCells_blk {b : Nat} {t : TypeId} {f : Nat × Nat} : ∀ (vs : List Value) (o : Nat) (cs : List Value) (w : World), w.heap[b]? = some (.cells cs.toArray t f) → o + vs.length ≤ cs.length →
    (w.setCells b o vs).heap[b]? = some (.cells (cs.take o ++ vs ++ cs.drop (o + vs.length)).toArray t f)
  | [], o, cs, w, h, _ => by rw [World.setCells, h]; simp
  | v :: vs, o, cs, w, h, hl => by
    have hl' : o + 1 + vs.length ≤ cs.length := by simp at hl; omega
    have h1 : (w.setCell ⟨b, o, none⟩ v).heap[b]? = some (.cells (cs.set o v).toArray t f) := by
      rw [blk_set h]; simp
    have ih := setCells_blk vs (o + 1) (cs.set o v) (w.setCell ⟨b, o, none⟩ v) h1 (by simpa using hl')
    rw [World.setCells, ih]
    congr 3
    have a1 : (cs.set o v).take (o + 1) = cs.take o ++ [v] := by
      rw [List.take_succ_eq_append_getElem (by rw [List.length_set]; omega), List.getElem_set_self]
      congr 1
      apply List.ext_getElem?
      intro i
      simp only [List.getElem?_take, List.getElem?_set]
      by_cases hi : i < o
      · rw [if_pos hi, if_pos hi, if_neg (by omega)]
      · rw [if_neg hi, if_neg hi]
    have a2 : (cs.set o v).drop (o + 1 + vs.length) = cs.drop (o + 1 + vs.length) := by
      apply List.ext_getElem?
      intro i
      rw [List.getElem?_drop, List.getElem?_drop, List.getElem?_set, if_neg (by omega)]
    rw [a1, a2, List.length_cons, show o + 1 + vs.length = o + (vs.length + 1) from by omega]
    simp
def bl (r : List UInt8) : List Value := r.map fun x : UInt8 => Value.int .u8 (x.toNat : Int)
theorem bytes_bl (r : List UInt8) : (bytesRow r).toList = bl r := by simp [bytesRow, bl]
def h9 (s : St) : List Value := .bool true :: (stRow s).toList
theorem h9_length (s : St) : (h9 s).length = 9 := rfl
theorem hCells_h9 (s : St) (r : List UInt8) (n : Nat) : hCells s r n = h9 s ++ (bl r ++ [Value.int .i64 n]) := by rw [hCells, bytes_bl]; rfl
theorem bl_length (r : List UInt8) : (bl r).length = r.length := by simp [bl]
theorem bl_append (r x : List UInt8) : bl (r ++ x) = bl r ++ bl x := by simp [bl]
theorem splice (s : St) (r x : List UInt8) (n k : Nat) (hr : r.length = 64) (h : k + x.length ≤ 64) :
    (hCells s r n).take (9 + k) ++ bl x ++ (hCells s r n).drop (9 + k + (bl x).length) = hCells s (laid r k x) n := by
  rw [hCells_h9, hCells_h9, bl_length, laid, bl_append, bl_append]
  have e1 : (h9 s ++ (bl r ++ [Value.int .i64 n])).take (9 + k) = h9 s ++ bl (r.take k) := by
    rw [List.take_append, List.take_of_length_le (by rw [h9_length]; omega), h9_length, show 9 + k - 9 = k from by omega, List.take_append_of_le_length (by rw [bl_length]; omega)]
    simp [bl, List.map_take]
  have e2 : (h9 s ++ (bl r ++ [Value.int .i64 n])).drop (9 + k + x.length) = bl (r.drop (k + x.length)) ++ [Value.int .i64 n] := by
    rw [List.drop_append, List.drop_eq_nil_of_le (by rw [h9_length]; omega), h9_length, show 9 + k + x.length - 9 = k + x.length from by omega, List.drop_append_of_le_length (by rw [bl_length]; omega)]
    simp [bl, List.map_drop]
  rw [e1, e2]
  simp [List.append_assoc]
theorem set_size (s : St) (r : List UInt8) (n m : Nat) (hr : r.length = 64) : (hCells s r n).set 73 (.int .i64 (m : Int)) = hCells s r m := by
  rw [hCells_h9, hCells_h9, List.set_append_right _ _ (by rw [h9_length]; omega), h9_length, List.set_append_right _ _ (by rw [bl_length]; omega), bl_length, hr]
  rfl
theorem set_now (s t : St) (r : List UInt8) (n : Nat) : (hCells s r n).take 1 ++ (stRow t).toList ++ (hCells s r n).drop (1 + (stRow t).toList.length) = hCells t r n := by
  rw [hCells_h9, hCells_h9]; rfl
theorem set_rest (s : St) (r x : List UInt8) (n : Nat) (hr : r.length = 64) (hx : x.length = 64) :
    (hCells s r n).take 9 ++ bl x ++ (hCells s r n).drop (9 + (bl x).length) = hCells s x n := by
  have := splice s r x n 0 hr (by omega)
  rw [Nat.add_zero] at this
  rw [this, laid, hx, List.drop_eq_nil_of_le (by omega)]
  simp
end Go.Proofs.YtoilcieineejiaaGreatDoor
/- What sha's 'Put' answers, and leaves: the walk of its text. -/
namespace Go.Proofs.YtoilcieineejiaaGreatDoor.SPut
open Go.RowKit
open SSpr SByt STurn SStep SHash
theorem of_nil (s : ByteArray) (w : World) : Calls Tryz.prog 115 #[.pointer none, .string s] w fun e w' => e = .returned (.int .i64 1) ∧ w = w' := by
  go_enter Tryz.func115, Tryz.ntmps115
  go_wp2_with (go_at_call 136; refine (isNone_nil _).mono ?_; rintro e w' ⟨rfl, rfl⟩)
  go_ret
  exact ⟨rfl, rfl⟩
theorem of_un (b : Nat) (s : ByteArray) (w : World) (h : w.cell? ⟨b, 0, none⟩ = some (.bool false)) : Calls Tryz.prog 115 #[.pointer (some ⟨b, 0, none⟩), .string s] w fun e w' => e = .returned (.int .i64 1) ∧ w = w' := by
  have H := Lib.hid h
  clear h
  go_enter Tryz.func115, Tryz.ntmps115
  go_wp2_with (go_at_call 136; refine (isNone_un b _ H.out).mono ?_; rintro e w' ⟨rfl, rfl⟩)
  go_ret
  exact ⟨rfl, rfl⟩
/-- How long the text in a slot is. -/
def strLen : Value → Nat | .string s => s.size | _ => 0
theorem sliceR (g k : Nat) (hk : k < 64) (W : World) : (Instr.sliceAt 183 (.pointer (some ⟨g, 9, none⟩)) (some (.int .i64 (k : Int))) none none).run Tryz.prog W = .ok (.slice (some ⟨g, 9 + k, none⟩) (64 - k) (64 - k)) W := by
  rw [run_sliceAt_array_l W _ _ und64 _ _ (by omega) (by rw [arr64]; omega), size64, arr64]
  simp [slicedAt, Addr.add_mid, show ¬ 64 = k from by omega]
theorem wpList_copy_str {P : Program} {w : World} {ops : Array Oper} {rest : List Oper} {o : Oper} {a : Act} {Q : Exit → Act → World → Prop} (hgd : o.guard = none) (d x : Operand) (dT sT : TypeId)
    (ho : o.op = .call { callee := .builtin .copy, args := #[d, x], argTypes := #[dT, sT] }) (elem : TypeId) (hu : P.underlying dT = some (.slice elem)) (hz : ∀ w, (Go.sizeOf elem).run P w = .ok 1 w)
    (b off dLen dCap n : Nat) (t : List UInt8) (hd : a.eval d = .slice (some ⟨b, off, none⟩) dLen dCap) (hx : a.eval x = .string ⟨t.toArray⟩) (hn : n = Nat.min t.length dLen)
    (hc : ∀ j, j < n → (w.cell? ⟨b, off + j, none⟩).isSome = true) (hf : ∀ j, j < n → w.frozen? ⟨b, off + j, none⟩ = false)
    (h : wpList P ops Q rest (a.put o.dst (goInt n)) (w.setCells b off (bl (t.take n)))) : wpList P ops Q (o :: rest) a w :=
  wpList_plain hgd fun _ hK => by
    have hrun : (Builtin.copy_ #[dT, sT] o.type #[.slice (some ⟨b, off, none⟩) dLen dCap, .string ⟨t.toArray⟩]).run P w = .ok (goInt n) (w.setCells b off (bl (t.take n))) := run_copy_str (P := P) w dT sT o.type elem b off dLen dCap n t hu hz hn hc hf
    unfold Oper.wp
    simp [execOp, ho, resolve, invoke, builtin, hd, hx, hrun, Result.andThen]
    exact hK _ _ h
theorem size5 (W : World) : (Go.sizeOf 5).run Tryz.prog W = .ok 1 W := by kernel_rfl
theorem there_of {w : World} {b : Nat} {cs : List Value} {t : TypeId} {o n : Nat} (h : w.heap[b]? = some (.cells cs.toArray t (0, 0))) (hl : o + n ≤ cs.length) : w.there b o n := fun j hj => by
  refine ⟨?_, blk_free h⟩
  rw [blk_cell h (show cs.toArray[o + j]? = some (cs[o + j]'(by omega)) from by simp)]
  rfl
theorem bytes_one (l : List UInt8) : (bytesRow l).all (·.oneCell') = true := by
  rw [Array.all_eq_true_iff_forall_mem]
  intro v hv
  simp only [bytesRow, List.mem_toArray, List.mem_map] at hv
  obtain ⟨x, _, rfl⟩ := hv
  rfl
/-- What Put leaves. -/
def Put_ (b : Nat) (l : List UInt8) (w : World) (e : Ending) (w' : World) : Prop := e = .returned (.int .i64 0) ∧ Has w' b l ∧ But b w w'
set_option maxRecDepth 100000 in
set_option linter.unusedSimpArgs false in
set_option maxHeartbeats 2000000 in
theorem any (b : Nat) (l s : List UInt8) (w : World) (h : Has w b l) (hr : Rds w) (hne : b ≠ 3) (hlen : l.length + s.length ≤ 1152921504606846976) :
    Calls Tryz.prog 115 #[.pointer (some ⟨b, 0, none⟩), .string ⟨s.toArray⟩] w (Put_ b (l ++ s) w) := by
  have HH := Lib.hid h
  have HM := Lib.hid h.made
  have HR := Lib.hid hr
  have HN := Lib.hid hne
  clear h hr hne
  go_enter Tryz.func115, Tryz.ntmps115
  go_wp2_with (go_at_call 136; refine (isNone_no b _ HM.out).mono ?_; rintro e w' ⟨rfl, rfl⟩)
  go_loopw [1] (fun t wr => ∃ L q : List UInt8, L ++ q = l ++ s ∧ t = .string ⟨q.toArray⟩ ∧ Has wr b L ∧ But b w wr) (fun t _ => strLen t)
  case atStart => exact ⟨l, s, rfl, rfl, HH.out, But.refl _ _⟩
  case round =>
    obtain ⟨L, q, hLq, rfl, hh, hbut⟩ := hrel
    have hlq : L.length + q.length ≤ 1152921504606846976 := by
      have := congrArg List.length hLq
      simp only [List.length_append] at this
      omega
    have HLQ := Lib.hid hLq
    have HX := Lib.hid hh
    have HB := Lib.hid hbut
    clear hLq hh hbut
    by_cases hq : 0 < q.length
    · have h73 := HX.out.size_
      have hlen2 : 0 < (q.length : Int) := by omega
      obtain ⟨k, hk⟩ : ∃ k, k = L.length % 64 := ⟨_, rfl⟩
      have hk64 : k < 64 := by omega
      have hkI : (L.length : Int) % 64 = (k : Int) := by omega
      have hkT : (L.length : Int).tmod 64 = (k : Int) := by rw [Int.tmod_eq_emod_of_nonneg (by omega)]; exact hkI
      have hsl := sliceR b k hk64
      obtain ⟨n, hn⟩ : ∃ n, n = Nat.min q.length (64 - k) := ⟨_, rfl⟩
      have hn1 : n ≤ q.length := by rw [hn]; exact Nat.min_le_left _ _
      have hn2 : n ≤ 64 - k := by rw [hn]; exact Nat.min_le_right _ _
      have hn0 : 0 < n := by rw [hn]; exact Nat.lt_min.2 ⟨hq, by omega⟩
      have HK := Lib.hid hk
      have HNN := Lib.hid hn
      clear hk hn
      go_upto_region 4 with (fail)
      have hsome : ∀ j, j < n → (wr.cell? ⟨b, 9 + k + j, none⟩).isSome = true := by
        intro j hj
        rw [blk_cell HX.out (show _ = some ((hCells (blocks st0 (L.length / 64) L) (rest L) L.length)[9 + k + j]'(by rw [hCells_length _ _ _ (rest_length L)]; omega)) from by simp)]
        rfl
      have hfree : ∀ j, j < n → wr.frozen? ⟨b, 9 + k + j, none⟩ = false := fun j _ => blk_free HX.out
      have HS := Lib.hid hsome
      have HF := Lib.hid hfree
      clear hsome hfree
      refine wp_region_still_tail 10 (by kernel_rfl) (by kernel_rfl) ?_
      simp only [List.take_succ_cons, List.take_zero, List.drop_succ_cons, List.drop_zero]
      change wpStill _ _ wr.drew _ _ _
      repeat still_step
      refine wpStill_nil ?_
      refine wpList_copy_str rfl _ _ 114 9 rfl 5 Tryz.underlying114 size5 b (9 + k) (64 - k) (64 - k) n q rfl rfl HNN.out HS.out HF.out ?_
      generalize hW1 : World.setCells _ _ _ _ = W1
      have hle := rest_length L
      have hX1 : W1.heap[b]? = some (.cells (hCells (blocks st0 (L.length / 64) L) (laid (rest L) k (q.take n)) L.length).toArray 185 (0, 0)) := by
        have htl : (q.take n).length = n := by rw [List.length_take, Nat.min_eq_left hn1]
        have h1 := setCells_blk (bl (q.take n)) (9 + k) (hCells (blocks st0 (L.length / 64) L) (rest L) L.length) wr.drew HX.out (by rw [bl_length, htl, hCells_length _ _ _ hle]; omega)
        rw [splice _ _ _ _ _ hle (by rw [htl]; omega)] at h1
        rw [← hW1]
        exact h1
      have hB1 : But b w W1 := by rw [← hW1]; exact (HB.out.drewN 1).setCells _ _
      clear hW1 hsl hkI hkT h73
      have htl : (q.take n).length = n := by rw [List.length_take, Nat.min_eq_left hn1]
      have HLD := Lib.hid (laid_length (rest L) k (q.take n) hle (by rw [htl]; omega))
      have HTL := Lib.hid htl
      have HX1 := Lib.hid hX1
      have HB1 := Lib.hid hB1
      have h73 : W1.cell? ⟨b, 73, none⟩ = some (.int .i64 L.length) := blk_cell hX1 (by simpa using hCells_size _ _ _ HLD.out)
      have hf73 := blk_free (i := 73) hX1
      clear hX1 hB1 htl hle
      obtain ⟨M, hM⟩ : ∃ M, M = L.length + n := ⟨_, rfl⟩
      have hwr : IntKind.i64.wrap ((L.length : Int) + (n : Int)) = (M : Int) := by rw [IntWalk.i64_in _ (by omega)]; omega
      have hss : ∀ W : World, (Instr.slice 9 (.string ⟨q.toArray⟩) (some (.int .i64 (n : Int))) none none).run Tryz.prog W = .ok (.string ⟨(q.drop n).toArray⟩) W := by
        intro W
        rw [run_slice_string_l (P := Tryz.prog) W 9 ⟨q.toArray⟩ Tryz.underlying9 .i64 (n : Int) (by omega) (show _ ≤ ((q.length : Nat) : Int) by omega)]
        rw [Int.toNat_natCast, ByteArray.extract_mk]
        rw [List.take_of_length_le (by rw [List.length_drop]; exact Nat.le_refl _)]
      have HMM := Lib.hid hM
      clear hM
      go_upto_region 5 with (fail)
      go_region
      generalize hW2 : World.drew _ = W2
      have hX2 : W2.heap[b]? = some (.cells (hCells (blocks st0 (L.length / 64) L) (laid (rest L) k (q.take n)) M).toArray 185 (0, 0)) := by
        have h1 := blk_set (i := 73) (u := .int .i64 (M : Int)) HX1.out
        rw [List.setIfInBounds_toArray, set_size _ _ _ _ HLD.out] at h1
        rw [← hW2]
        exact h1
      have hB2 : But b w W2 := by rw [← hW2]; exact (HB1.out.set_ 73 _).drewN 1
      clear hW2 hss hwr h73 hf73
      have h73 : W2.cell? ⟨b, 73, none⟩ = some (.int .i64 M) := blk_cell hX2 (by simpa using hCells_size _ _ _ HLD.out)
      have HX2 := Lib.hid hX2
      have HB2 := Lib.hid hB2
      clear hX2 hB2 HX1 HB1
      by_cases hfull : k + n = 64
      · have hmod : (M : Int) % 64 = 0 := by
          have h1 := HMM.out
          have h2 := HK.out
          omega
        clear hlen2 hq
        go_upto_region 7 with (fail)
        clear hmod h73
        have hnow : W2.rangeAt b 1 (stRow (blocks st0 (L.length / 64) L)).toList := fun j v hv => blk_cell HX2.out (by simpa using hCells_now _ _ _ j v hv)
        have hrest : W2.rangeAt b 9 (bytesRow (laid (rest L) k (q.take n))).toList := fun j v hv => blk_cell HX2.out (by simpa using hCells_rest _ _ _ j v hv)
        have hst := blocks_ok st0 st0_ok (L.length / 64) L
        have HT := Lib.hid (fun (W : World) (hr : Rds W) => turn (blocks st0 (L.length / 64) L) hst (laid (rest L) k (q.take n)) HLD.out W hr)
        have HI := Lib.hid (show (Tryz.prog.info? 183).map (·.size) = some (bytesRow (laid (rest L) k (q.take n))).toList.length by
          rw [Array.length_toList, bytesRow_size, HLD.out]; exact info51)
        have HF := Lib.hid (full L (q.take n) (by have h1 := HTL.out; have h2 := HK.out; omega))
        rw [← HK.out, HTL.out, ← HMM.out] at HF
        have HBL := Lib.hid (show b < W2.heap.size from (Array.getElem?_eq_some_iff.1 HX2.out).1)
        have HRW : Hid (Rds W2) := fun i hi => (World.cell?_of_block (w := w) (HB2.out.block _ HR.out.lt (fun e => HN.out e.symm))).trans (HR.out i hi)
        have HN0 := Lib.hid hnow
        have HN1 := Lib.hid hrest
        clear hnow hrest
        generalize laid (rest L) k (q.take n) = R at *
        generalize blocks st0 (L.length / 64) L = B at *
        refine wp_region_held_drew (S := fun _ => True) (by kernel_rfl) trivial (fun _ => ?_)
        refine wpAnyH_take (i := 0) (v := .pointer (some ⟨b, 0, none⟩)) (by rw [List.getElem?_toArray]; rfl) (by kernel_rfl) (by kernel_rfl) (by kernel_rfl) (by intro _ _ _ h; exact h) (Or.inl ⟨by rfl, fun W _ => by kernel_rfl⟩) trivial ?_
        try simp only [Act.put, List.setIfInBounds_toArray, List.set_cons_zero, List.set_cons_succ]
        refine wpAnyH_take (i := 1) (v := .pointer (some ⟨b, 0, none⟩)) (by rw [List.getElem?_toArray]; rfl) (by kernel_rfl) (by kernel_rfl) (by kernel_rfl) (by intro _ _ _ h; exact h) (Or.inl ⟨by rfl, fun W _ => by kernel_rfl⟩) trivial ?_
        try simp only [Act.put, List.setIfInBounds_toArray, List.set_cons_zero, List.set_cons_succ]
        refine wpAnyH_take (i := 2) (v := .pointer (some ⟨b, 0, none⟩)) (by rw [List.getElem?_toArray]; rfl) (by kernel_rfl) (by kernel_rfl) (by kernel_rfl) (by intro _ _ _ h; exact h) (Or.inl ⟨by rfl, fun W _ => by kernel_rfl⟩) trivial ?_
        try simp only [Act.put, List.setIfInBounds_toArray, List.set_cons_zero, List.set_cons_succ]
        refine wpAnyH_take (i := 3) (v := .pointer (some ⟨b, 0, none⟩)) (by rw [List.getElem?_toArray]; rfl) (by kernel_rfl) (by kernel_rfl) (by kernel_rfl) (by intro _ _ _ h; exact h) (Or.inl ⟨by rfl, fun W _ => by kernel_rfl⟩) trivial ?_
        try simp only [Act.put, List.setIfInBounds_toArray, List.set_cons_zero, List.set_cons_succ]
        refine wpAnyH_take (i := 4) (v := .pointer (some ⟨b, 1, none⟩)) (by rw [List.getElem?_toArray]; rfl) (by kernel_rfl) (by kernel_rfl) (by kernel_rfl) (by intro _ _ _ h; exact h) (Or.inl ⟨by rfl, fun W _ => by kernel_rfl⟩) trivial ?_
        try simp only [Act.put, List.setIfInBounds_toArray, List.set_cons_zero, List.set_cons_succ]
        refine wpAnyH_take (i := 6) (v := .pointer (some ⟨b, 0, none⟩)) (by rw [List.getElem?_toArray]; rfl) (by kernel_rfl) (by kernel_rfl) (by kernel_rfl) (by intro _ _ _ h; exact h) (Or.inl ⟨by rfl, fun W _ => by kernel_rfl⟩) trivial ?_
        try simp only [Act.put, List.setIfInBounds_toArray, List.set_cons_zero, List.set_cons_succ]
        refine wpAnyH_take (i := 7) (v := .pointer (some ⟨b, 0, none⟩)) (by rw [List.getElem?_toArray]; rfl) (by kernel_rfl) (by kernel_rfl) (by kernel_rfl) (by intro _ _ _ h; exact h) (Or.inl ⟨by rfl, fun W _ => by kernel_rfl⟩) trivial ?_
        try simp only [Act.put, List.setIfInBounds_toArray, List.set_cons_zero, List.set_cons_succ]
        refine wpAnyH_take (i := 8) (v := .pointer (some ⟨b, 9, none⟩)) (by rw [List.getElem?_toArray]; rfl) (by kernel_rfl) (by kernel_rfl) (by kernel_rfl) (by intro _ _ _ h; exact h) (Or.inl ⟨by rfl, fun W _ => by kernel_rfl⟩) trivial ?_
        try simp only [Act.put, List.setIfInBounds_toArray, List.set_cons_zero, List.set_cons_succ]
        refine wpAnyH_take (i := 11) (v := .agg (bytesRow (List.replicate 64 0))) (by rw [List.getElem?_toArray]; rfl) (by kernel_rfl) (by kernel_rfl) (by kernel_rfl) (by intro _ _ _ h; exact h) (Or.inl ⟨by rfl, fun W _ => by kernel_rfl⟩) trivial ?_
        try simp only [Act.put, List.setIfInBounds_toArray, List.set_cons_zero, List.set_cons_succ]
        have hz64 : (List.replicate 64 (0 : UInt8)).length = 64 := by simp
        generalize List.replicate 64 (0 : UInt8) = zz at *
        have HZI := Lib.hid (show (Tryz.prog.info? 183).map (·.size) = some (bytesRow zz).size by rw [bytesRow_size, hz64]; exact info51)
        have HZ := Lib.hid hz64
        have HZB := Lib.hid (show (bytesRow zz).size = 64 by rw [bytesRow_size, hz64])
        clear hz64
        refine wpAnyH_ready (rs := [5, 9]) (by kernel_rfl) (by simp) (AllReadyH.cons (by rw [List.getElem?_toArray]; rfl) (fun K hK => ?_) (AllReadyH.cons (by rw [List.getElem?_toArray]; rfl) (fun K hK => ?_) AllReadyH.nil))
        · rw [if_pos (by rfl)]
          refine wp_load_mid 180 _ rfl b 1 rfl (stRow B).toList _ HN0.out Tryz.underlying180 rfl (by exact info49) ?_
          refine hK.out _ _ trivial (fun _ => ?_)
          clear hK K
          try simp only [Act.put, List.setIfInBounds_toArray, List.set_cons_zero, List.set_cons_succ]
          refine wpAnyH_ready (rs := [9]) (by kernel_rfl) (by simp) (AllReadyH.cons (by rw [List.getElem?_toArray]; rfl) (fun K hK => ?_) AllReadyH.nil)
          rw [if_pos (by rfl)]
          refine wp_load_mid 183 _ rfl b 9 rfl (bytesRow R).toList _ HN1.out Tryz.underlying183 rfl HI.out ?_
          refine hK.out _ _ trivial (fun _ => ?_)
          clear hK K
          try simp only [Act.put, List.setIfInBounds_toArray, List.set_cons_zero, List.set_cons_succ]
          refine wpAnyH_ready (rs := [10]) (by kernel_rfl) (by simp) (AllReadyH.cons (by rw [List.getElem?_toArray]; rfl) (fun K hK => ?_) AllReadyH.nil)
          go_simp
          refine (HT.out W2.drew HRW.out).mono ?_
          rintro e w3 ⟨rfl, hb3⟩
          refine hK.out _ _ trivial (fun _ => ?_)
          clear hK K
          try simp only [Act.put, List.setIfInBounds_toArray, List.set_cons_zero, List.set_cons_succ]
          refine wpAnyH_take (i := 12) (v := .pointer (some ⟨b, 0, none⟩)) (by rw [List.getElem?_toArray]; rfl) (by kernel_rfl) (by kernel_rfl) (by kernel_rfl) (by intro _ _ _ h; exact h) (Or.inl ⟨by rfl, fun W _ => by kernel_rfl⟩) trivial ?_
          try simp only [Act.put, List.setIfInBounds_toArray, List.set_cons_zero, List.set_cons_succ]
          refine wpAnyH_take (i := 13) (v := .pointer (some ⟨b, 1, none⟩)) (by rw [List.getElem?_toArray]; rfl) (by kernel_rfl) (by kernel_rfl) (by kernel_rfl) (by intro _ _ _ h; exact h) (Or.inl ⟨by rfl, fun W _ => by kernel_rfl⟩) trivial ?_
          try simp only [Act.put, List.setIfInBounds_toArray, List.set_cons_zero, List.set_cons_succ]
          have g3 : w3.heap[b]? = some (.cells (hCells B R M).toArray 185 (0, 0)) := (hb3.block b HBL.out).trans HX2.out
          refine wpAnyH_ready (rs := [14]) (by kernel_rfl) (by simp) (AllReadyH.cons (by rw [List.getElem?_toArray]; rfl) (fun K hK => ?_) AllReadyH.nil)
          rw [if_pos (by rfl)]
          refine wp_store_mid 180 _ _ rfl b 1 (stRow (turnSt B R)) rfl rfl (there_of g3 (by rw [hCells_length _ _ _ HLD.out]; show 1 + 8 ≤ 74; omega)) (by exact info49) (all8 _ _ _ _ _ _ _ _) ?_
          refine hK.out _ _ trivial (fun _ => ?_)
          clear hK K
          try simp only [Act.put, List.setIfInBounds_toArray, List.set_cons_zero, List.set_cons_succ]
          refine wpAnyH_take (i := 15) (v := .pointer (some ⟨b, 0, none⟩)) (by rw [List.getElem?_toArray]; rfl) (by kernel_rfl) (by kernel_rfl) (by kernel_rfl) (by intro _ _ _ h; exact h) (Or.inl ⟨by rfl, fun W _ => by kernel_rfl⟩) trivial ?_
          try simp only [Act.put, List.setIfInBounds_toArray, List.set_cons_zero, List.set_cons_succ]
          refine wpAnyH_take (i := 16) (v := .pointer (some ⟨b, 9, none⟩)) (by rw [List.getElem?_toArray]; rfl) (by kernel_rfl) (by kernel_rfl) (by kernel_rfl) (by intro _ _ _ h; exact h) (Or.inl ⟨by rfl, fun W _ => by kernel_rfl⟩) trivial ?_
          try simp only [Act.put, List.setIfInBounds_toArray, List.set_cons_zero, List.set_cons_succ]
          have g4 := setCells_blk (stRow (turnSt B R)).toList 1 (hCells B R M) w3 g3 (by rw [hCells_length _ _ _ HLD.out]; show 1 + 8 ≤ 74; omega)
          rw [set_now] at g4
          refine wpAnyH_ready (rs := [17]) (by kernel_rfl) (by simp) (AllReadyH.cons (by rw [List.getElem?_toArray]; rfl) (fun K hK => ?_) AllReadyH.nil)
          rw [if_pos (by rfl)]
          refine wp_store_mid 183 _ _ rfl b 9 (bytesRow zz) rfl rfl (there_of g4 (by rw [hCells_length _ _ _ HLD.out, HZB.out]; omega)) HZI.out (bytes_one _) ?_
          refine hK.out _ _ trivial (fun _ => ?_)
          clear hK K
          try simp only [Act.put, List.setIfInBounds_toArray, List.set_cons_zero, List.set_cons_succ]
          have g5 := setCells_blk (bytesRow zz).toList 9 (hCells (turnSt B R) R M) _ g4 (by rw [hCells_length _ _ _ HLD.out, Array.length_toList, HZB.out]; omega)
          rw [bytes_bl, set_rest _ _ _ _ HLD.out HZ.out] at g5
          have g6 : But b w w3 := (show But b w W2.drew from ⟨HB2.out.os, HB2.out.tape, HB2.out.output, HB2.out.size, HB2.out.block⟩).trans (But.of_below hb3)
          have g7 := (g6.setCells 1 (stRow (turnSt B R)).toList).setCells 9 (bl zz)
          rw [← HF.out] at g5
          have G5 := Lib.hid g5
          have G7 := Lib.hid g7
          clear g3 g4 g5 g6 g7 hb3
          refine wpAnyH_done (by kernel_rfl) ?_ _
          go_wp2
          go_roundw
          case rel => exact ⟨L ++ q.take n, q.drop n, by rw [List.append_assoc, List.take_append_drop]; exact HLQ.out, rfl, G5.out, G7.out⟩
          case measure =>
            show (q.drop n).length < q.length
            rw [List.length_drop]
            omega
        · rw [if_pos (by rfl)]
          refine wp_load_mid 183 _ rfl b 9 rfl (bytesRow R).toList _ HN1.out Tryz.underlying183 rfl HI.out ?_
          refine hK.out _ _ trivial (fun _ => ?_)
          clear hK K
          try simp only [Act.put, List.setIfInBounds_toArray, List.set_cons_zero, List.set_cons_succ]
          refine wpAnyH_ready (rs := [5]) (by kernel_rfl) (by simp) (AllReadyH.cons (by rw [List.getElem?_toArray]; rfl) (fun K hK => ?_) AllReadyH.nil)
          rw [if_pos (by rfl)]
          refine wp_load_mid 180 _ rfl b 1 rfl (stRow B).toList _ HN0.out Tryz.underlying180 rfl (by exact info49) ?_
          refine hK.out _ _ trivial (fun _ => ?_)
          clear hK K
          try simp only [Act.put, List.setIfInBounds_toArray, List.set_cons_zero, List.set_cons_succ]
          refine wpAnyH_ready (rs := [10]) (by kernel_rfl) (by simp) (AllReadyH.cons (by rw [List.getElem?_toArray]; rfl) (fun K hK => ?_) AllReadyH.nil)
          go_simp
          refine (HT.out W2.drew HRW.out).mono ?_
          rintro e w3 ⟨rfl, hb3⟩
          refine hK.out _ _ trivial (fun _ => ?_)
          clear hK K
          try simp only [Act.put, List.setIfInBounds_toArray, List.set_cons_zero, List.set_cons_succ]
          refine wpAnyH_take (i := 12) (v := .pointer (some ⟨b, 0, none⟩)) (by rw [List.getElem?_toArray]; rfl) (by kernel_rfl) (by kernel_rfl) (by kernel_rfl) (by intro _ _ _ h; exact h) (Or.inl ⟨by rfl, fun W _ => by kernel_rfl⟩) trivial ?_
          try simp only [Act.put, List.setIfInBounds_toArray, List.set_cons_zero, List.set_cons_succ]
          refine wpAnyH_take (i := 13) (v := .pointer (some ⟨b, 1, none⟩)) (by rw [List.getElem?_toArray]; rfl) (by kernel_rfl) (by kernel_rfl) (by kernel_rfl) (by intro _ _ _ h; exact h) (Or.inl ⟨by rfl, fun W _ => by kernel_rfl⟩) trivial ?_
          try simp only [Act.put, List.setIfInBounds_toArray, List.set_cons_zero, List.set_cons_succ]
          have g3 : w3.heap[b]? = some (.cells (hCells B R M).toArray 185 (0, 0)) := (hb3.block b HBL.out).trans HX2.out
          refine wpAnyH_ready (rs := [14]) (by kernel_rfl) (by simp) (AllReadyH.cons (by rw [List.getElem?_toArray]; rfl) (fun K hK => ?_) AllReadyH.nil)
          rw [if_pos (by rfl)]
          refine wp_store_mid 180 _ _ rfl b 1 (stRow (turnSt B R)) rfl rfl (there_of g3 (by rw [hCells_length _ _ _ HLD.out]; show 1 + 8 ≤ 74; omega)) (by exact info49) (all8 _ _ _ _ _ _ _ _) ?_
          refine hK.out _ _ trivial (fun _ => ?_)
          clear hK K
          try simp only [Act.put, List.setIfInBounds_toArray, List.set_cons_zero, List.set_cons_succ]
          refine wpAnyH_take (i := 15) (v := .pointer (some ⟨b, 0, none⟩)) (by rw [List.getElem?_toArray]; rfl) (by kernel_rfl) (by kernel_rfl) (by kernel_rfl) (by intro _ _ _ h; exact h) (Or.inl ⟨by rfl, fun W _ => by kernel_rfl⟩) trivial ?_
          try simp only [Act.put, List.setIfInBounds_toArray, List.set_cons_zero, List.set_cons_succ]
          refine wpAnyH_take (i := 16) (v := .pointer (some ⟨b, 9, none⟩)) (by rw [List.getElem?_toArray]; rfl) (by kernel_rfl) (by kernel_rfl) (by kernel_rfl) (by intro _ _ _ h; exact h) (Or.inl ⟨by rfl, fun W _ => by kernel_rfl⟩) trivial ?_
          try simp only [Act.put, List.setIfInBounds_toArray, List.set_cons_zero, List.set_cons_succ]
          have g4 := setCells_blk (stRow (turnSt B R)).toList 1 (hCells B R M) w3 g3 (by rw [hCells_length _ _ _ HLD.out]; show 1 + 8 ≤ 74; omega)
          rw [set_now] at g4
          refine wpAnyH_ready (rs := [17]) (by kernel_rfl) (by simp) (AllReadyH.cons (by rw [List.getElem?_toArray]; rfl) (fun K hK => ?_) AllReadyH.nil)
          rw [if_pos (by rfl)]
          refine wp_store_mid 183 _ _ rfl b 9 (bytesRow zz) rfl rfl (there_of g4 (by rw [hCells_length _ _ _ HLD.out, HZB.out]; omega)) HZI.out (bytes_one _) ?_
          refine hK.out _ _ trivial (fun _ => ?_)
          clear hK K
          try simp only [Act.put, List.setIfInBounds_toArray, List.set_cons_zero, List.set_cons_succ]
          have g5 := setCells_blk (bytesRow zz).toList 9 (hCells (turnSt B R) R M) _ g4 (by rw [hCells_length _ _ _ HLD.out, Array.length_toList, HZB.out]; omega)
          rw [bytes_bl, set_rest _ _ _ _ HLD.out HZ.out] at g5
          have g6 : But b w w3 := (show But b w W2.drew from ⟨HB2.out.os, HB2.out.tape, HB2.out.output, HB2.out.size, HB2.out.block⟩).trans (But.of_below hb3)
          have g7 := (g6.setCells 1 (stRow (turnSt B R)).toList).setCells 9 (bl zz)
          rw [← HF.out] at g5
          have G5 := Lib.hid g5
          have G7 := Lib.hid g7
          clear g3 g4 g5 g6 g7 hb3
          refine wpAnyH_done (by kernel_rfl) ?_ _
          go_wp2
          go_roundw
          case rel => exact ⟨L ++ q.take n, q.drop n, by rw [List.append_assoc, List.take_append_drop]; exact HLQ.out, rfl, G5.out, G7.out⟩
          case measure =>
            show (q.drop n).length < q.length
            rw [List.length_drop]
            omega
      · have hmod : ((M : Int) % 64 == 0) = false := by
          have h1 := HMM.out
          have h2 := HK.out
          rw [beq_eq_false_iff_ne]
          omega
        go_wp2
        go_roundw
        case rel =>
          refine ⟨L ++ q.take n, q.drop n, by rw [List.append_assoc, List.take_append_drop]; exact HLQ.out, rfl, ?_, HB2.out⟩
          show W2.heap[b]? = _
          rw [less L (q.take n) (by have h1 := HTL.out; have h2 := HK.out; omega), HTL.out, ← HK.out, ← HMM.out]
          exact HX2.out
        case measure =>
          show (q.drop n).length < q.length
          rw [List.length_drop]
          omega
    · have hq0 : q = [] := List.eq_nil_of_length_eq_zero (by omega)
      go_wp2
      go_ret
      refine ⟨rfl, ?_, HB.out⟩
      have h1 := HLQ.out
      rw [hq0, List.append_nil] at h1
      rw [← h1]
      exact HX.out
end Go.Proofs.YtoilcieineejiaaGreatDoor.SPut
/- What a Hash's Sum answers: the walk of its text. -/
namespace Go.Proofs.YtoilcieineejiaaGreatDoor.SSum
open Go.RowKit
open SSpr SByt STurn SStep SHash SPut
theorem of_nil (w : World) : Calls Tryz.prog 116 #[.pointer none] w fun e w' => e = .returned (.string ⟨#[]⟩) ∧ w = w' := by
  go_enter Tryz.func116, Tryz.ntmps116
  go_wp2_with (go_at_call 136; refine (isNone_nil _).mono ?_; rintro e w' ⟨rfl, rfl⟩)
  go_ret
  exact ⟨rfl, rfl⟩
theorem of_un (b : Nat) (w : World) (h : w.cell? ⟨b, 0, none⟩ = some (.bool false)) : Calls Tryz.prog 116 #[.pointer (some ⟨b, 0, none⟩)] w fun e w' => e = .returned (.string ⟨#[]⟩) ∧ w = w' := by
  have H := Lib.hid h
  clear h
  go_enter Tryz.func116, Tryz.ntmps116
  go_wp2_with (go_at_call 136; refine (isNone_un b _ H.out).mono ?_; rintro e w' ⟨rfl, rfl⟩)
  go_ret
  exact ⟨rfl, rfl⟩
set_option maxRecDepth 100000 in
set_option maxHeartbeats 1000000 in
theorem any (b : Nat) (l : List UInt8) (w : World) (h : Has w b l) (hr : Rds w) (hlen : l.length ≤ 576460752303423488) :
    Calls Tryz.prog 116 #[.pointer (some ⟨b, 0, none⟩)] w fun e w' => e = .returned (.string ⟨(sum l).toArray⟩) ∧ Below w.heap.size w w' := by
  have HH := Lib.hid h
  have HM := Lib.hid h.made
  have HR := Lib.hid hr
  have h73 := h.size_
  have HPad := Lib.hid (fun W => SPad.good l.length W (by omega))
  have hpl := pad_length l.length
  have hpl2 : l.length + (pad l.length).length ≤ 1152921504606846976 := by omega
  have HS : Hid (sum l = (blocks st0 ((l ++ pad l.length).length / 64) (l ++ pad l.length)).bytes) := by rw [sum, List.length_append]; rfl
  clear h hr hpl
  generalize pad l.length = p at *
  have HL := Lib.hid (hCells_length (blocks st0 (l.length / 64) l) (rest l) l.length (rest_length l))
  have HO := Lib.hid (hCells_one (blocks st0 (l.length / 64) l) (rest l) l.length)
  have HH2 : Hid (w.heap[b]? = some (.cells (hCells (blocks st0 (l.length / 64) l) (rest l) l.length).toArray 185 (0, 0))) := HH.out
  have HP : Hid (∀ w' c, w'.heap[c]? = some (.cells (hCells (blocks st0 (l.length / 64) l) (rest l) l.length).toArray 185 (0, 0)) → Has w' c l) := fun _ _ h => h
  generalize hCells (blocks st0 (l.length / 64) l) (rest l) l.length = cs at *
  have HI := Lib.hid (show (Tryz.prog.info? 185).map (·.size) = some cs.toArray.size by rw [List.size_toArray, HL.out]; exact info53)
  have HZ : Hid (Tryz.zeroCells185.size = cs.toArray.size) := ((show Tryz.zeroCells185.size = 74 by kernel_rfl).trans (by rw [List.size_toArray, HL.out]))
  go_enter Tryz.func116, Tryz.ntmps116
  go_upto_region 4 with (first
    | (go_at_call 136; refine (isNone_no b _ HM.out).mono ?_; rintro e w' ⟨rfl, rfl⟩)
    | (go_at_call 138; refine (HPad.out _).mono ?_; rintro e w1 ⟨rfl, hb1⟩))
  have HB1 := Lib.hid hb1
  have HH3 := Lib.hid ((hb1.block b HH.out.lt).trans HH2.out)
  clear hb1 h73
  go_upto_region 5 with (first
    | (refine wpList_load_row rfl 185 _ rfl b rfl 185 _ (0, 0) _ HH3.out Tryz.underlying185 rfl HI.out ?_)
    | (refine wpList_store_row rfl 185 _ _ rfl w1.heap.size _ rfl rfl 185 _ (heap_alloc_new w1 _) HI.out HZ.out HO.out ?_))
  generalize hW : World.setRow _ _ _ = W2
  have k1 : Has W2 w1.heap.size l := by rw [← hW]; exact HP.out _ _ (setRow_same (heap_alloc_new w1 _))
  have k2 : Below w1.heap.size w1 W2 := by rw [← hW]; exact below_setRow ((Below.refl _ _).alloc (Nat.le_refl _) _) (Nat.le_refl _) _
  have k3 : Rds W2 := HR.out.step (HB1.out.trans (k2.mono HB1.out.size))
  have hg := HR.out.lt
  have k4 : w1.heap.size ≠ 3 := by have := HB1.out.size; omega
  have HPut := Lib.hid (SPut.any w1.heap.size l p W2 k1 k3 k4 (by omega))
  have K2 := Lib.hid k2
  clear hW k1 k2 k3 k4 hg
  go_wp2_with fail
  refine HPut.out.mono ?_
  rintro e w3 ⟨rfl, hh3, hbut3⟩
  have HNow := Lib.hid hh3.now
  have HB3 := Lib.hid (HB1.out.trans ((K2.out.mono HB1.out.size).trans (hbut3.below HB1.out.size (Nat.le_trans HB1.out.size K2.out.size))))
  have HBy := Lib.hid (fun W => SByt.bytes (blocks st0 ((l ++ p).length / 64) (l ++ p)) (blocks_ok st0 st0_ok _ _) W)
  clear hh3 hbut3
  generalize blocks st0 ((l ++ p).length / 64) (l ++ p) = B at *
  go_wp2_with (first
    | (refine wpList_load_mid rfl 180 _ rfl w1.heap.size 1 rfl (stRow B).toList _ HNow.out Tryz.underlying180 rfl (by exact info49) ?_)
    | (go_at_call 139; refine (HBy.out _).mono ?_; rintro e w4 ⟨rfl, hb4⟩))
  rw [← HS.out]
  go_ret
  exact ⟨rfl, HB3.out.trans (hb4.mono HB3.out.size)⟩
/-- The slice value '.slice a n _' reads as the texts 'ls', below block 'B'. -/
def Strs (w : World) (B : Nat) (a : Option Addr) (n : Nat) (ls : List (List UInt8)) : Prop :=
  ls.length = n ∧ (0 < n → ∃ b off, a = some ⟨b, off, none⟩ ∧ b < B ∧ ∀ i, i < n → w.cell? ⟨b, off + i, none⟩ = some (.string ⟨(ls.getD i []).toArray⟩))
theorem Strs.below {w w' : World} {B : Nat} {a : Option Addr} {n : Nat} {ls : List (List UInt8)} (h : Strs w B a n ls) (hb : Below B w w') : Strs w' B a n ls :=
  ⟨h.1, fun hn => by
    obtain ⟨b, off, e, hlt, hc⟩ := h.2 hn
    exact ⟨b, off, e, hlt, fun i hi => (hb.cell (p := ⟨b, off + i, none⟩) hlt).trans (hc i hi)⟩⟩
theorem Strs.more {w : World} {B B' : Nat} {a : Option Addr} {n : Nat} {ls : List (List UInt8)} (h : Strs w B a n ls) (hb : B ≤ B') : Strs w B' a n ls :=
  ⟨h.1, fun hn => by
    obtain ⟨b, off, e, hlt, hc⟩ := h.2 hn
    exact ⟨b, off, e, by omega, hc⟩⟩
theorem flat_next (ls : List (List UInt8)) (j : Nat) (h : j < ls.length) : (ls.take (j + 1)).flatten = (ls.take j).flatten ++ ls.getD j [] := by
  rw [List.take_succ_eq_append_getElem h, List.flatten_append]
  simp [List.getD, h]
theorem flat_le (ls : List (List UInt8)) (j : Nat) : (ls.take j).flatten.length ≤ ls.flatten.length := by
  have h := congrArg List.length (congrArg List.flatten (List.take_append_drop j ls))
  rw [List.flatten_append, List.length_append] at h
  omega
set_option maxHeartbeats 1000000 in
theorem sums (a : Option Addr) (n c : Nat) (ls : List (List UInt8)) (w : World) (h : Strs w w.heap.size a n ls) (hr : Rds w) (hlen : ls.flatten.length ≤ 576460752303423488) (hn : n ≤ 9223372036854775807) :
    Calls Tryz.prog 77 #[.slice a n c] w fun e w' => e = .returned (.string ⟨(sum ls.flatten).toArray⟩) ∧ Below w.heap.size w w' := by
  have HH := Lib.hid h
  have HR := Lib.hid hr
  have HL := Lib.hid hlen
  clear h hr hlen
  go_enter Tryz.func77, Tryz.ntmps77
  go_wp2_with (go_at_call 114; refine (New _).mono ?_; rintro e w1 ⟨b, rfl, hh1, hb1, hle⟩; have HX1 := Lib.hid hh1; have HB1 := Lib.hid hb1; clear hh1 hb1)
  go_loopw [9] (fun i wr => ∃ j : Nat, j ≤ n ∧ i = .int .i64 j ∧ Has wr b (ls.take j).flatten ∧ Below w.heap.size w wr) (fun i _ => n - (intOf i).toNat)
  case atStart => exact ⟨0, Nat.zero_le _, rfl, HX1.out, HB1.out⟩
  case round =>
    obtain ⟨j, hj, rfl, hh, hbel⟩ := hrel
    have HX := Lib.hid hh
    have HB := Lib.hid hbel
    clear hh hbel
    by_cases hlt : j < n
    · obtain ⟨q, off, rfl, hq, hc⟩ := HH.out.2 (by omega)
      have hcj := (HB.out.cell (p := ⟨q, off + j, none⟩) hq).trans (hc j hlt)
      have HN := Lib.hid (flat_next ls j (by rw [HH.out.1]; exact hlt))
      have hfl := flat_le ls (j + 1)
      rw [HN.out, List.length_append] at hfl
      have hg := HR.out.lt
      have HP := Lib.hid (SPut.any b (ls.take j).flatten (ls.getD j []) wr HX.out (HR.out.step HB.out) (by omega) (by have := HL.out; omega))
      clear hc hfl hg
      generalize ls.getD j [] = x at *
      go_wp2_with (go_at_call 115; refine HP.out.mono ?_; rintro e w2 ⟨rfl, hh2, hb2⟩; have HX2 := Lib.hid hh2; have HB2 := Lib.hid hb2; clear hh2 hb2)
      go_roundw
      case rel => exact ⟨j + 1, by omega, by go_num, by rw [HN.out]; exact HX2.out, HB.out.trans (HB2.out.below hle HB.out.size)⟩
      case measure => simp [intOf]; omega
    · have hk : j = n := by omega
      subst hk
      have ht : ls.take j = ls := List.take_of_length_le (by rw [HH.out.1]; exact Nat.le_refl _)
      have hx := HX.out
      rw [ht] at hx
      have HS := Lib.hid (SSum.any b ls.flatten wr hx (HR.out.step HB.out) HL.out)
      clear ht hx
      go_wp2_with (go_at_call 116; refine HS.out.mono ?_; rintro e w2 ⟨rfl, hb2⟩)
      go_ret
      exact ⟨rfl, HB.out.trans (hb2.mono HB.out.size)⟩
end Go.Proofs.YtoilcieineejiaaGreatDoor.SSum
