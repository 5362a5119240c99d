/- Mem Slice: one behind the other. -/
import Derived.WalkKit
import Derived.Below
import Derived.Laws.BytesArg
import Derived.Lib.Hide
import Derived.Laws.Rows
import Derived.Deep.Draws
import Derived.Lib.ConvBytes
import Derived.Lib.AppendStr
import Derived.OpenShut
/- Small facts on memory: a block that is known whole; a row of bytes turned into a text. No conditions but those that each lemma names. -/
namespace Go.Proofs.YtoilcieineejiaaGreatDoor
open Go.RowKit
theorem blk_set {w : World} {g i : Nat} {cs : Array Value} {t : TypeId} {f : Nat × Nat} {u : Value} (h : w.heap[g]? = some (.cells cs t f)) :
    (w.setCell ⟨g, i, none⟩ u).heap[g]? = some (.cells (cs.setIfInBounds i u) t f) := by
  simp [World.setCell, Array.getElem?_modify, h]
theorem blk_free {w : World} {g i : Nat} {cs : Array Value} {t : TypeId} (h : w.heap[g]? = some (.cells cs t (0, 0))) : w.frozen? ⟨g, i, none⟩ = false := by
  simp [World.frozen?, h]
theorem blk_cell {w : World} {g i : Nat} {cs : Array Value} {t : TypeId} {f : Nat × Nat} {u : Value} (h : w.heap[g]? = some (.cells cs t f)) (hu : cs[i]? = some u) : w.cell? ⟨g, i, none⟩ = some u := by
  rw [cell_of_row w g i cs t f h, hu]
/-- The cells of a row of bytes. -/
def bytesRow (l : List UInt8) : Array Value := (l.map fun b : UInt8 => Value.int .u8 b.toNat).toArray
theorem bytesRow_size (l : List UInt8) : (bytesRow l).size = l.length := by simp [bytesRow]
theorem bytesRow_at (l : List UInt8) (i : Nat) (h : i < l.length) : (bytesRow l)[i]? = some (.int .u8 l[i].toNat) := by simp [bytesRow, h]
theorem bytesRow_set (l : List UInt8) (i : Nat) (b : UInt8) : (bytesRow l).setIfInBounds i (.int .u8 b.toNat) = bytesRow (l.set i b) := by
  simp [bytesRow, List.map_set]
theorem nums_bytes (l : List UInt8) : strOfNums (l.map fun b => (b.toNat : Int)) = ⟨l.toArray⟩ := by
  simp [strOfNums, List.map_map, Function.comp_def]
theorem conv_row {P : Program} {w : World} {src dst e : TypeId} (hs : P.underlying src = some (.slice e)) (he : P.underlying e = some (.int .u8)) (hd : P.underlying dst = some .string)
    {g t len cap : Nat} {f : Nat × Nat} {l m : List UInt8} (h : w.heap[g]? = some (.cells (bytesRow (l ++ m)) t f)) (hl : l.length = len) :
    (convert src dst (.slice (some ⟨g, 0, none⟩) len cap)).run P w = .ok (.string ⟨l.toArray⟩) w := by
  rw [← nums_bytes]
  refine run_convert_bytes_arg w src e hs he g 0 len cap (l.map fun b => (b.toNat : Int)) (by simpa using hl) (fun i hi => ?_) dst hd
  rw [Nat.zero_add]
  have hi' : i < (l ++ m).length := by simp; omega
  rw [blk_cell h (bytesRow_at _ i hi')]
  simp [hl, hi, List.getD]
theorem one_byte (m : Nat) : #[Value.int .u8 ((m : Int) % 256)] = bytesRow ([UInt8.ofNat m] ++ []) := by
  simp [bytesRow]
theorem made_bytes (k : Nat) : madeCells #[Value.int .u8 0] k = bytesRow (List.replicate k 0) := by
  have h0 : ∀ i, i % 1 = 0 := fun i => by omega
  simp [bytesRow, madeCells, Array.ext_iff, h0]
theorem alloc3_0 (w : World) (A B C : Obj) : (((w.alloc A).alloc B).alloc C).heap[w.heap.size]? = some A := by
  rw [heap_alloc_old _ _ (by simp; omega)]; exact heap_alloc2_old w A B
theorem alloc3_1 (w : World) (A B C : Obj) : (((w.alloc A).alloc B).alloc C).heap[w.heap.size + 1]? = some B := by
  rw [heap_alloc_old _ _ (by simp)]; exact heap_alloc2_new w A B
theorem alloc3_2 (w : World) (A B C : Obj) : (((w.alloc A).alloc B).alloc C).heap[w.heap.size + 1 + 1]? = some C := by
  have := heap_alloc_new ((w.alloc A).alloc B) C
  simpa using this
theorem below_alloc3 (w : World) (A B C : Obj) : Below w.heap.size w (((w.alloc A).alloc B).alloc C) :=
  (((Below.refl _ _).alloc (Nat.le_refl _) _).alloc (by simp) _).alloc (by simp; omega) _
theorem below_drewN {b : Nat} (w : World) (n : Nat) : Below b w (w.drewN n) := by
  have h := Below.refl b w
  exact ⟨h.os, h.tape, h.output, h.size, h.block⟩
theorem setRow_same {w : World} {g : Nat} {cs old : Array Value} {t : TypeId} (h : w.heap[g]? = some (.cells old t (0, 0))) : (w.setRow g cs).heap[g]? = some (.cells cs t (0, 0)) := setRow_heap w g old cs t _ h
theorem setRow_far {w : World} {g k : Nat} {cs : Array Value} (h : k ≠ g) : (w.setRow g cs).heap[k]? = w.heap[k]? := setRow_other w g k cs h
theorem below_setRow {b : Nat} {a w : World} (h : Below b a w) {g : Nat} (hg : b ≤ g) (cs : Array Value) : Below b a (w.setRow g cs) :=
  h.trans ⟨rfl, rfl, rfl, by simp, fun k hk => setRow_far (by omega)⟩
theorem cell_far {w : World} {g i j n : Nat} {u v : Value} (h : i ≠ j) (hc : w.cell? ⟨g, i, none⟩ = some v) : ((w.drewN n).setCell ⟨g, j, none⟩ u).cell? ⟨g, i, none⟩ = some v :=
  (World.cell?_setCell_other (w.drewN n) ⟨g, j, none⟩ ⟨g, i, none⟩ u (fun e => by injection e; omega)).trans hc
theorem add_off (g i j : Nat) : (⟨g, i, none⟩ : Addr).add j = ⟨g, i + j, none⟩ := by unfold Addr.add; split <;> simp_all
/-- A whole array, or struct, read from where its cells are known. -/
theorem run_loadVar_at {P : Program} (w : World) (a : Addr) (ty : TypeId) (cs : Array Value) (d : TypeDesc) (hc : ∀ j v, cs[j]? = some v → w.cell? (a.add j) = some v)
    (hu : P.underlying ty = some d) (hd : (match d with | .struct _ | .array _ _ => true | _ => false) = true) (hi : (P.info? ty).map (·.size) = some cs.size) :
    (loadVar ty a).run P w = .ok (.agg cs) w := by
  have hl : (loadCells a cs.toList.length).run P w = .ok cs.toList.toArray w :=
    run_loadCells_list (P := P) w a cs.toList (fun j v hv => hc j v (by simpa using hv))
  cases hq : P.info? ty with
  | none => simp [hq] at hi
  | some i =>
    have hs : i.size = cs.size := by simpa [hq] using hi
    have hagg : (isAgg ty).run P w = .ok true w := by
      unfold isAgg
      rw [Sem.run_bind, run_underlying hu w]
      cases d <;> simp_all
    simp only [Array.length_toList, Array.toArray_toList] at hl
    simp [loadVar, Sem.run_bind, hagg, sizeOf, typeInfo, hq, hs, hl]
theorem wp_load_at {P : Program} {o : Oper} {a : Act} {w : World} {K : Act → World → Prop} {Q : Exit → Act → World → Prop} (ty : TypeId) (x : Operand) (ho : o.op = .load ty x)
    (p : Addr) (hx : a.eval x = .pointer (some p)) (cs : Array Value) (d : TypeDesc) (hc : ∀ j v, cs[j]? = some v → w.cell? (p.add j) = some v)
    (hu : P.underlying ty = some d) (hd : (match d with | .struct _ | .array _ _ => true | _ => false) = true) (hi : (P.info? ty).map (·.size) = some cs.size)
    (h : K (a.put o.dst (.agg cs)) w) : o.wp P a w K Q := by
  unfold Oper.wp execOp
  simp only [ho, hx, Instr.loadAt, Instr.sureAddr, Sem.run_bind, Sem.run_pure, Result.andThen_ok, run_loadVar_at w p ty cs d hc hu hd hi]
  exact h
theorem wpList_load_at {P : Program} {ops : Array Oper} {rest : List Oper} {o : Oper} {a : Act} {w : World} {Q : Exit → Act → World → Prop} (hgd : o.guard = none) (ty : TypeId) (x : Operand) (ho : o.op = .load ty x)
    (p : Addr) (hx : a.eval x = .pointer (some p)) (cs : Array Value) (d : TypeDesc) (hc : ∀ j v, cs[j]? = some v → w.cell? (p.add j) = some v)
    (hu : P.underlying ty = some d) (hd : (match d with | .struct _ | .array _ _ => true | _ => false) = true) (hi : (P.info? ty).map (·.size) = some cs.size)
    (h : wpList P ops Q rest (a.put o.dst (.agg cs)) w) : wpList P ops Q (o :: rest) a w :=
  wpList_plain hgd fun _ hK => wp_load_at ty x ho p hx cs d hc hu hd hi (hK _ _ h)
theorem step_load_at {P : Program} {ops : Array Oper} {o : Oper} {a : Act} {w : World} {K : Act → World → Prop} {Q : Exit → Act → World → Prop} {E : Prop} (hgd : o.guard = none) (ty : TypeId) (x : Operand) (ho : o.op = .load ty x)
    (p : Addr) (hx : a.eval x = .pointer (some p)) (cs : Array Value) (d : TypeDesc) (hc : ∀ j v, cs[j]? = some v → w.cell? (p.add j) = some v)
    (hu : P.underlying ty = some d) (hd : (match d with | .struct _ | .array _ _ => true | _ => false) = true) (hi : (P.info? ty).map (·.size) = some cs.size)
    (h : K (a.put o.dst (.agg cs)) w) : if Region.wanted o (yielded ops a.tmps) = true then Oper.wp P o a w K Q else E := by
  have hw : Region.wanted o (yielded ops a.tmps) = true := by simp [Region.wanted, hgd]
  rw [if_pos hw]
  exact wp_load_at ty x ho p hx cs d hc hu hd hi h
/-- '[]byte(s)': a new block that begins with the text's bytes. -/
theorem conv_new {P : Program} (w : World) {src dst e : TypeId} (s : List UInt8) (hs : P.underlying src = some .string) (hd : P.underlying dst = some (.slice e)) (he : P.underlying e = some (.int .u8)) :
    ∃ cap W', (convert src dst (.string ⟨s.toArray⟩)).run P w = .ok (.slice (some ⟨w.heap.size, 0, none⟩) s.length cap) W' ∧
      (∀ i, i < s.length → W'.cell? ⟨w.heap.size, i, none⟩ = some (.int .u8 (s.getD i 0).toNat)) ∧ Below w.heap.size w W' ∧ W'.heap.size = w.heap.size + 1 :=
  ⟨_, _, Lib.run_convert_string_bytes w src dst e ⟨s.toArray⟩ hs hd he, fun i hi => Lib.bytesWorld_cell w e ⟨s.toArray⟩ i hi,
    ⟨rfl, rfl, rfl, by rw [Lib.bytesWorld_size]; omega, fun k hk => Lib.bytesWorld_at_old w e _ k hk⟩, Lib.bytesWorld_size w e _⟩
end Go.Proofs.YtoilcieineejiaaGreatDoor
/- Small facts on slices of integers and on rows that a call owns. No conditions but those that each lemma names. -/
namespace Go.Proofs.YtoilcieineejiaaGreatDoor
open Go.RowKit
/-- A slice of integers as it came in: nil, or a row of cells (as the row's own reading gives it). -/
def IntsAt (k : IntKind) (w : World) (a : Option Addr) (len cap : Nat) (zs : List Int) : Prop :=
  (a = none ∧ len = 0 ∧ cap = 0 ∧ zs = []) ∨
  ∃ x, a = some x ∧ len ≤ cap ∧ cap ≤ maxLen ∧ zs.length = cap ∧ (∀ i, i < zs.length → w.cell? (x.add i) = some (.int k (zs.getD i 0))) ∧ ∀ n ∈ zs, (Lit.int k n).wf = true
/-- The slice value '.slice a n _' reads as the ints 'l', below block 'B'. -/
def Row (w : World) (B : Nat) (a : Option Addr) (n : Nat) (l : List Int) : Prop :=
  l.length = n ∧ (0 < n → ∃ b off, a = some ⟨b, off, none⟩ ∧ b < B ∧ ∀ i, i < n → w.cell? ⟨b, off + i, none⟩ = some (.int .i64 (l.getD i 0)))
theorem Row.keep {w w' : World} {B : Nat} {a : Option Addr} {n : Nat} {l : List Int} (h : Row w B a n l) (hk : ∀ k, k < B → w'.heap[k]? = w.heap[k]?) : Row w' B a n l :=
  ⟨h.1, fun hn => by
    obtain ⟨b, off, e, hb, hc⟩ := h.2 hn
    exact ⟨b, off, e, hb, fun i hi => (World.cell?_of_block (w := w) (w' := w') (hk b hb)).trans (hc i hi)⟩⟩
theorem Row.below {w w' : World} {B : Nat} {a : Option Addr} {n : Nat} {l : List Int} (h : Row w B a n l) (hb : Below B w w') : Row w' B a n l := h.keep hb.block
theorem Row.more {w : World} {B B' : Nat} {a : Option Addr} {n : Nat} {l : List Int} (h : Row w B a n l) (hb : B ≤ B') : Row w B' a n l :=
  ⟨h.1, fun hn => by
    obtain ⟨b, off, e, hb', hc⟩ := h.2 hn
    exact ⟨b, off, e, by omega, hc⟩⟩
/-- A number that a Go int holds. -/
def IsInt (n : Int) : Prop := -9223372036854775808 ≤ n ∧ n ≤ 9223372036854775807
theorem row_of {w : World} {a : Option Addr} {len cap : Nat} {zs : List Int} (h : IntsAt .i64 w a len cap zs) (hlt : ∀ b off, a = some ⟨b, off, none⟩ → 0 < len → b < w.heap.size) :
    ∃ l, Row w w.heap.size a len l ∧ ∀ n ∈ l, IsInt n := by
  rcases h with ⟨rfl, rfl, rfl, rfl⟩ | ⟨x, rfl, hl, _, hz, hc, hw⟩
  · exact ⟨[], ⟨rfl, fun h => absurd h (by omega)⟩, fun n hn => by simp at hn⟩
  · refine ⟨zs.take len, ⟨by simp; omega, fun hn => ?_⟩, fun n hn => bounds_i64 (hw n (List.mem_of_mem_take hn))⟩
    obtain ⟨b, off, rfl, hc'⟩ := ints_at hc (by omega)
    refine ⟨b, off, rfl, hlt b off rfl hn, fun i hi => ?_⟩
    rw [hc' i (by omega)]
    simp [List.getD, hi]
theorem row_at {w : World} {a : Option Addr} {len cap : Nat} {zs : List Int} (h : IntsAt .i64 w a len cap zs) : ∃ l, Row w w.heap.size a len l ∧ ∀ n ∈ l, IsInt n := by
  refine row_of h fun b off e hn => ?_
  rcases h with ⟨rfl, rfl, rfl, rfl⟩ | ⟨x, rfl, hl, _, hz, hc, hw⟩
  · omega
  · injection e with e
    subst e
    have := hc 0 (by omega)
    exact World.block_lt_of_cell? w _ (by simpa [Addr.add] using this)
theorem getD_isInt {l : List Int} (h : ∀ n ∈ l, IsInt n) (i : Nat) : IsInt (l.getD i 0) := by
  rw [List.getD]
  cases hx : l[i]? with
  | none => exact ⟨by simp, by simp⟩
  | some x => exact h x (List.mem_of_getElem? hx)
/-- What a call owns stays where another block is written. -/
theorem own_set {w : World} {base : Nat} {e : TypeId} {size : Nat} {v : Value} {n : Nat} {xs : List Value} (h : w.ownsRow base e size v n xs) {g i : Nat} (hg : g < base) (u : Value) :
    (w.setCell ⟨g, i, none⟩ u).ownsRow base e size v n xs := ownsRow_setCell_below h hg u
theorem own_slice {w : World} {base : Nat} {e : TypeId} {size : Nat} {v : Value} {n : Nat} {xs : List Value} (h : w.ownsRow base e size v n xs) : ∃ a l c, v = .slice a l c := by
  rcases h.2 with ⟨rfl, _⟩ | ⟨g, cap, cur, rfl, _⟩
  · exact ⟨_, _, _, rfl⟩
  · exact ⟨_, _, _, rfl⟩
/-- Text of an owned row of bytes. -/
theorem conv_own {P : Program} {w : World} {src dst e : TypeId} (hs : P.underlying src = some (.slice e)) (he : P.underlying e = some (.int .u8)) (hd : P.underlying dst = some .string)
    {base n : Nat} {v : Value} {l : List UInt8} (h : w.ownsRow base e 1 v n (Lib.strCells ⟨l.toArray⟩)) :
    (convert src dst v).run P w = .ok (.string ⟨l.toArray⟩) w := by
  have hl : l.length = n := by have := h.1; rw [Lib.strCells_length, Nat.mul_one] at this; exact this
  rcases h.2 with ⟨rfl, h0⟩ | ⟨g, cap, cur, rfl, _, hg, hnc, _, hcs, ht⟩
  · have : l = [] := List.eq_nil_of_length_eq_zero (by omega)
    subst this
    exact run_convert_bytes_nil w src e hs he 0 0 dst hd
  · rw [← nums_bytes]
    refine run_convert_bytes_arg w src e hs he g 0 n cap (l.map fun b => (b.toNat : Int)) (by simpa using hl) (fun i hi => ?_) dst hd
    have hc := h.cells (g := g) rfl i (.int .u8 (l[i]'(by omega)).toNat) (by simp [Lib.strCells, show i < l.length from by omega])
    have ha : (⟨g, 0, none⟩ : Addr).add i = ⟨g, 0 + i, none⟩ := by unfold Addr.add; split <;> simp_all
    rw [ha] at hc
    rw [hc]
    simp [List.getD, show i < l.length from by omega]
/-- An owned row of ints reads as they. -/
theorem row_own {w : World} {base : Nat} {e : TypeId} {a : Option Addr} {n cap : Nat} {l : List Int} (h : w.ownsRow base e 1 (.slice a n cap) n (l.map (Value.int .i64))) : Row w w.heap.size a n l := by
  have hl : l.length = n := by have := h.1; simpa using this
  refine ⟨hl, fun hn => ?_⟩
  rcases h.2 with ⟨hv, h0⟩ | ⟨g, c, cur, hv, _, hg, _⟩
  · omega
  · injection hv with hv
    subst hv
    refine ⟨g, 0, rfl, (Array.getElem?_eq_some_iff.1 hg).1, fun i hi => ?_⟩
    have hc := h.cells (g := g) rfl i (.int .i64 (l[i]'(by omega))) (by simp [show i < l.length from by omega])
    have ha : (⟨g, 0, none⟩ : Addr).add i = ⟨g, 0 + i, none⟩ := by unfold Addr.add; split <;> simp_all
    rw [ha] at hc
    rw [hc]
    simp [List.getD, show i < l.length from by omega]
end Go.Proofs.YtoilcieineejiaaGreatDoor
